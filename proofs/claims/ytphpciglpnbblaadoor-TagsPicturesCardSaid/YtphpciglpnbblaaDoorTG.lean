/-
  The reader of tags: a list of texts; first.
-/
import Derived.Test.YtphpciglpnbblaaDoorTF
import Derived.WalkMore
namespace Go.Proofs.YtphpciglpnbblaaDoor
open Go.RowKit Go.Shelf

theorem txR_le (num : List Nat → Nat) (rest : List Nat) : (txR num rest).length ≤ rest.length := by
  unfold txR
  rw [tkR_len, tkR_len]
  split <;> split <;> omega
theorem txR_lt (num : List Nat → Nat) (rest : List Nat) (h : txS num rest = false) : (txR num rest).length + 4 ≤ rest.length := by
  unfold txS at h
  rw [Bool.or_eq_false_iff, decide_eq_false_iff_not, decide_eq_false_iff_not] at h
  unfold txR
  have h1 : (tkR 4 rest).length = rest.length - 4 := by rw [tkR_len, if_neg h.1]
  rw [tkR_len, if_neg h.2]
  omega
/-- so many texts: what they are, what is left, whether bytes ran out -/
def lsF (num : List Nat → Nat) : Nat → Bool → List Nat → List (List Nat) × List Nat × Bool
  | 0, sh, rest => ([], rest, sh)
  | k + 1, sh, rest => if (sh || txS num rest) = true then ([], txR num rest, true) else (txB num rest :: (lsF num k false (txR num rest)).1, (lsF num k false (txR num rest)).2)
theorem lsF_stop (num : List Nat → Nat) (k : Nat) (sh : Bool) (rest : List Nat) (h : (sh || txS num rest) = true) : lsF num (k + 1) sh rest = ([], txR num rest, true) := by
  unfold lsF
  rw [if_pos h]
theorem lsF_go (num : List Nat → Nat) (k : Nat) (sh : Bool) (rest : List Nat) (h : (sh || txS num rest) = false) : lsF num (k + 1) sh rest = (txB num rest :: (lsF num k false (txR num rest)).1, (lsF num k false (txR num rest)).2) := by
  show (if (sh || txS num rest) = true then _ else _) = _
  rw [h, if_neg (by decide)]
/-- what list answers -/
def LsR (w : World) (b : Nat) (R : List (List Nat) × List Nat × Bool) (off : Bool) (e : Ending) (w' : World) : Prop :=
  (∃ v, e = .returned v ∧ Owns w' w.heap.size 9 Value.string v (R.1.map strN)) ∧ Rd w' b R.2.1 R.2.2 off ∧ Only (Just b) w w'
def LsRel (w : World) (b m N : Nat) (R : List (List Nat) × List Nat × Bool) (off : Bool) (s7 s11 : Value) (wr : World) : Prop :=
  ∃ (i : Nat) (L : List (List Nat)) (r : List Nat) (s : Bool), i ≤ m ∧ s11 = iv i ∧ (L ++ (lsF lv (m - i) s r).1, (lsF lv (m - i) s r).2) = R ∧ Owns wr w.heap.size 9 Value.string s7 (L.map strN) ∧ Rd wr b r s off ∧ Only (Just b) w wr ∧ r.length + 4 * L.length ≤ N
set_option maxRecDepth 100000 in
set_option maxHeartbeats 8000000 in
theorem list_any {w : World} {b : Nat} {rest : List Nat} {sh off : Bool} (h : Rd w b rest sh off) (hN : rest.length ≤ 300000) :
    Calls Tryd.prog 31 #[.pointer (some ⟨b, 0, none⟩), mv 30 b, mv 32 b] w
      fun e w' => LsR w b (lsF lv (lv (tkB 4 rest)) (sh || decide (rest.length < 4)) (tkR 4 rest)) off e w' := by
  have hen1 := reads_low.enters
  have hen2 : ∀ args w, (callFunc 32 args).run Tryd.prog w = .ok (.enter 32 args) w := enters_of Tryd.func32 (by kernel_rfl) rfl
  have HD := Lib.hid (reads_low.does w b rest sh off h)
  have HC : Hid (∀ u r s, Rd u b r s off → Calls Tryd.prog 32 #[.pointer (some ⟨b, 0, none⟩)] u fun e w' => TxR u b lv r s off e w') := Lib.hid (fun u r s hu => comment_any hu)
  have hm : lv (tkB 4 rest) < 4294967296 := reads_low.lt _ (by rw [tkB_len]; split <;> omega) (tkB_lt 4 rest h.small.2)
  have hr4 : (tkR 4 rest).length ≤ rest.length := by rw [tkR_len]; split <;> omega
  unfold NmR at HD
  have hlt := h.lt
  generalize lv (tkB 4 rest) = m at *
  generalize tkR 4 rest = r1 at *
  generalize (sh || decide (rest.length < 4)) = s1 at *
  obtain ⟨N, hNe⟩ : ∃ N, rest.length = N := ⟨_, rfl⟩
  rw [hNe] at hr4 hN
  obtain ⟨R, hR⟩ : ∃ R, lsF lv m s1 r1 = R := ⟨_, rfl⟩
  have HR := Lib.hid hR
  rw [hR]
  clear h hNe hR
  go_enter Tryd.func31, Tryd.ntmps31
  go_wp2
  go_step3
  go_wp2
  go_step3
  go_wp2_with fail
  refine (HD.out).mono ?_
  rintro e w1 ⟨rfl, hr, ho⟩
  have HRd := Lib.hid hr
  have HO := Lib.hid ho
  have hsz := ho.size
  have HSz := Lib.hid hsz
  clear hr ho
  go_wp2
  go_loopw [7, 11] (fun s7 s11 wr => LsRel w b m N R off s7 s11 wr) (fun _ s11 _ => m - (intOf s11).toNat)
  case atStart => exact ⟨0, [], r1, s1, Nat.zero_le _, rfl, by rw [← HR.out]; rfl, Owns.nil _ _ _ _, HRd.out, HO.out, by simpa using hr4⟩
  case round =>
    obtain ⟨i, L, r, s, hi, rfl, hf, hown, hrd, ho, hle⟩ := hrel
    have HF := Lib.hid hf
    have HW := Lib.hid hown
    have HOi := Lib.hid ho
    have HLe := Lib.hid hle
    have hsz2 : w.heap.size ≤ wr.heap.size := ho.size
    have HSz2 := Lib.hid hsz2
    have HRr := Lib.hid hrd
    clear hf hown ho hle hsz2
    by_cases hlt2 : i < m
    · have hlti : (i : Int) < (m : Int) := by omega
      have HCi := Lib.hid (HC.out wr r s hrd)
      have hst : ∀ k, m - i = k + 1 → (s || txS lv r) = true → (L, txR lv r, true) = R := fun k e h => by
        have := HF.out
        rw [e, lsF_stop lv k s r h] at this
        simpa using this
      have hgo : (s || txS lv r) = false → ((L ++ [txB lv r]) ++ (lsF lv (m - (i + 1)) false (txR lv r)).1, (lsF lv (m - (i + 1)) false (txR lv r)).2) = R := fun h => by
        have := HF.out
        rw [show m - i = (m - (i + 1)) + 1 by omega, lsF_go lv _ s r h] at this
        simpa using this
      have HSt := Lib.hid (hst (m - i - 1) (by omega))
      have HGo := Lib.hid hgo
      have HGl : Hid ((s || txS lv r) = false → (txR lv r).length + 4 * (L ++ [txB lv r]).length ≤ N) := Lib.hid (fun h => by
        rw [Bool.or_eq_false_iff] at h
        have h1 := txR_lt lv r h.2
        have h2 := HLe.out
        rw [List.length_append, List.length_singleton]
        omega)
      have hmap : Hid ((L ++ [txB lv r]).map strN = L.map strN ++ [strN (txB lv r)]) := Lib.hid (by simp)
      unfold TxR at HCi
      generalize txR lv r = r2 at *
      generalize (s || txS lv r) = s2 at *
      generalize txB lv r = B at *
      clear hst hgo hrd
      go_wp2_with fail
      refine (HCi.out).mono ?_
      rintro e w2 ⟨rfl, hr2, ho2⟩
      obtain ⟨v0, hb0, _⟩ := hr2.ex
      have c1 := hb0.cell 1
      simp only [List.getElem?_toArray, List.getElem?_cons_zero, List.getElem?_cons_succ] at c1
      have HR2 := Lib.hid hr2
      have HO2 := Lib.hid (HOi.out.trans ho2)
      have HW2 : Hid (Owns w2 w.heap.size 9 Value.string u7 (L.map strN)) := Lib.hid (owns_only HW.out ho2 (fun g hg e => by have := (HW.out.lt hg).1; rw [show g = b from e] at this; omega))
      clear hb0 hr2 ho2
      cases s2 with
      | true =>
        have HFin : Hid (LsR w b R off (.returned u7) w2) := Lib.hid (by
          have := HSt.out rfl
          rw [← this]
          exact ⟨⟨_, rfl, HW2.out⟩, HR2.out, HO2.out⟩)
        go_wp2
        go_ret
        exact HFin.out
      | false =>
        have HSz3 := Lib.hid (HO2.out.size)
        have HLl : Hid ((L.map strN).length ≤ 100000) := Lib.hid (by have := HLe.out; rw [List.length_map]; omega)
        go_wp2_with (at_builtin; refine app_text rfl (.tmp 19) (.tmp 21) rfl w.heap.size u7 (L.map strN) rfl ?own1 w2.heap.size (strN B) rfl ((Box.new w2 _ _).cell 0) HLl.out ?base1 ?rest1)
        case own1 => exact HW2.out.nix ((Only.refl Nix w2).alloc _)
        case base1 => have := HSz3.out; simp; omega
        case rest1 =>
          intro v3 w3 h3 g3 m3
          have HW3 := Lib.hid h3
          have HOw : Hid (Only (Just b) w w3) := Lib.hid ((HO2.out.alloc _).grown g3 (fun k hk => .inr (HW2.out.lt hk).1))
          have HR3 : Hid (Rd w3 b r2 false off) := Lib.hid ((HR2.out.nix ((Only.refl Nix w2).alloc _)).up ((Only.refl (Row u7) _).grown g3 (fun k hk => .inl hk)) (fun k hk => Nat.lt_of_lt_of_le hlt (HW2.out.lt hk).1))
          clear h3 g3 m3
          go_wp2
          go_roundw
          case rel => exact ⟨i + 1, L ++ [B], r2, false, hlt2, by go_num, HGo.out trivial, by rw [hmap.out]; exact HW3.out, HR3.out, HOw.out, HGl.out trivial⟩
          case measure => simp [intOf]; omega
    · have hd : decide (i < m) = false := by simp; omega
      have HFin : Hid (LsR w b R off (.returned u7) wr) := Lib.hid (by
        have := HF.out
        rw [show m - i = 0 by omega] at this
        unfold lsF at this
        rw [← this]
        exact ⟨⟨_, rfl, by simpa using HW.out⟩, HRr.out, HOi.out⟩)
      clear hrd
      go_wp2
      go_ret
      exact HFin.out
end Go.Proofs.YtphpciglpnbblaaDoor
