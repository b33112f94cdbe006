/-
  BlocksBack: its walk.
-/
import Derived.Test.YtighdjbeddcckaaVBF
namespace Go.Proofs.Ytighdjbeddcckaa
open Go.RowKit Go.Shelf

theorem tot_few {l : List Bk} (h : fewB l) : tot l l.length ≤ 20000 := by
  have key : ∀ n, n ≤ l.length → tot l n ≤ 504 * n := by
    intro n
    induction n with
    | zero => intro _; exact Nat.le_refl _
    | succ n ih =>
      intro hn
      have h1 := ih (by omega)
      have h2 := h.1 n (by omega)
      rw [tot_succ]
      omega
  have h1 := key _ (Nat.le_refl _)
  have h2 := h.2
  omega
theorem BSrc.data_lt {w : World} {v : Value} {l : List Bk} (h : BSrc w v l) : ∀ k ∈ l, ∀ x ∈ k.2, x < 256 := fun k hk x hx => by
  obtain ⟨A, c, hv, hcap, hc⟩ := h.form
  obtain ⟨i, hi, rfl⟩ := List.getElem_of_mem hk
  obtain ⟨_, _, _, _, _, h4⟩ := hc i hi
  exact h4.src.lt x hx
theorem wE_zero {l : List Bk} (h : wE l = 0) : 0 < l.length ∧ goodN l l.length := by
  unfold wE at h
  by_cases h0 : l.length = 0
  · rw [if_pos h0] at h; cases h
  · rw [if_neg h0] at h
    by_cases h1 : goodN l l.length
    · exact ⟨by omega, h1⟩
    · rw [if_neg h1] at h; cases h
set_option maxRecDepth 100000 in
set_option maxHeartbeats 16000000 in
theorem back_any {w : World} {A B : Option Addr} {n m c d : Nat} {l : List Bk} {bs : List Nat} (hl : BSrc w (.slice A n c) l) (hb : Src w (.slice B m d) bs) (hd : m ≤ d) :
    Calls Try.prog 4 #[.slice A n c, .slice B m d] w fun e w' => e = .returned (.bool true) ∧ Only Nix w w' := by
  have e1 := hl.len
  have e2 := hb.len
  subst e1 e2
  have hcb : CSrc w (.slice B bs.length d) bs := ⟨hb, fun _ _ _ e => by injection e with _ e2 e3; omega⟩
  have HL := Lib.hid hl
  have HB := Lib.hid hcb
  have HAw : Hid (∀ u, Calls Try.prog 9 #[] u fun e w' => e = .returned (.bool true) ∧ Only Nix u w') := Lib.hid awake_any
  have HFw := Lib.hid (few_any hl)
  clear hl hb hcb
  by_cases g1 : fewB l
  · rw [decide_eq_true g1] at HFw
    by_cases g2 : 1000 < bs.length
    · have g2i : (1000 : Int) < (bs.length : Int) := by omega
      clear g1
      go_enter Try.func4, Try.ntmps4
      go_wp2_with fail
      refine (HFw.out).mono ?_
      rintro e w1 ⟨rfl, o1⟩
      have HO1 := Lib.hid o1
      have HA1 := Lib.hid (HAw.out w1)
      clear o1
      go_wp2_with fail
      refine (HA1.out).mono ?_
      rintro e w2 ⟨rfl, o2⟩
      have HO2 := Lib.hid (HO1.out.trans o2)
      clear o2
      go_wp2
      go_ret
      exact ⟨rfl, HO2.out⟩
    have g2i : ¬ (1000 : Int) < (bs.length : Int) := by omega
    have HWr : Hid (∀ u, Only Nix w u → Calls Try.prog 15 #[.slice A l.length c] u fun e w' => WtR u l e w') := Lib.hid (fun u hu => write_any (HL.out.nix hu) (tot_few g1))
    have HRb : Hid (∀ u, Only Nix w u → Calls Try.prog 10 #[.slice B bs.length d] u fun e w' => RdR u bs e w') := Lib.hid (fun u hu => read_any (HB.out.nix hu) (by omega))
    -- the second half
    obtain ⟨L, X, E, hR⟩ : ∃ L X E, rdB bs = (L, X, E) := ⟨_, _, _, rfl⟩
    have HRb2 : Hid (∀ u e w', RdR u bs e w' → (if E = 0 then ∃ v, e = .returned (.tuple #[v, iv (X : Nat), iv 0]) ∧ BSrc w' v L else e = .returned (.tuple #[.slice none 0 0, iv 0, iv E])) ∧ Only Nix u w') := Lib.hid (fun u e w' h => by
      unfold RdR at h
      rw [hR] at h
      exact h)
    have HWk : Hid (E = 0 → X ≤ bs.length ∧ ∀ u v, BSrc u v L → Calls Try.prog 15 #[v] u fun e w' => ∃ v', e = .returned (.tuple #[v', iv 0]) ∧ Src w' v' (bs.take X) ∧ Only Nix u w') := Lib.hid (fun h => by
      have hw := write_read HB.out.src.lt (by rw [hR]; exact h)
      rw [hR] at hw
      simp only at hw
      obtain ⟨q1, q2, q3, q4⟩ := hw
      refine ⟨q3, fun u v hv => ?_⟩
      obtain ⟨A5, c5, rfl⟩ := hv.slice
      refine (write_any hv (by omega)).mono ?_
      rintro e w' ⟨⟨v', rfl, hown⟩, ho⟩
      rw [q2] at hown
      exact ⟨v', by rw [q1], hown.bytes (by rw [List.length_take]; omega) (fun x hx => HB.out.src.lt x (List.mem_of_mem_take hx)), ho⟩)
    have HEq : Hid (E = 0 → ∀ u v, Only Nix w u → Src u v (bs.take X) → Calls Try.prog 13 #[v, .slice B X d] u fun e w' => e = .returned (.bool true) ∧ Only Nix u w') := Lib.hid (fun h u v hu hv => equal_at hv ((HB.out.src.nix hu).take X d (HWk.out h).1))
    clear hR
    by_cases h0 : wE l = 0
    · obtain ⟨hl0, hgd⟩ := wE_zero h0
      have hsz : ∀ j, j < l.length → (gb l j).2.length < 16777216 := fun j hj => by have := g1.1 j hj; omega
      have hwl := wrN_len l l.length
      have ht4 := tot_ge l l.length
      have htf := tot_few g1
      have hwb : wB l = wrN l l.length := if_pos h0
      have hlt := wr_lt l hgd HL.out.data_lt
      have HW2 : Hid (∀ u e w', WtR u l e w' → ∃ A5 c5, e = .returned (.tuple #[.slice A5 (tot l l.length) c5, iv 0]) ∧ CSrc w' (.slice A5 (tot l l.length) c5) (wrN l l.length) ∧ tot l l.length ≤ c5 ∧ Only Nix u w') := Lib.hid (fun u e w' h => by
        obtain ⟨⟨v, rfl, hown⟩, ho⟩ := h
        rw [hwb] at hown
        have hc := hown.csrc (by omega) hlt
        obtain ⟨A5, c5, rfl, hc5⟩ := hc.form
        rw [hwl] at hc hc5 ⊢
        exact ⟨A5, c5, by rw [h0], hc, hc5, ho⟩)
      have HRm : Hid (∀ u v, CSrc u v (wrN l l.length ++ bs) → Calls Try.prog 10 #[v] u fun e w' => ∃ v', e = .returned (.tuple #[v', iv ((tot l l.length : Nat) : Int), iv 0]) ∧ BSrc w' v' l ∧ Only Nix u w') := Lib.hid (fun u v hv => by
        obtain ⟨A5, c5, rfl, _⟩ := hv.form
        have hr := read_write hgd hl0 hsz bs
        refine (read_any hv (by rw [List.length_append]; omega)).mono ?_
        rintro e w' ⟨h1, h2⟩
        rw [hr, if_pos rfl] at h1
        obtain ⟨v', h3, h4⟩ := h1
        exact ⟨v', h3, h4, h2⟩)
      have HRs : Hid (∀ u A5 c5, CSrc u (.slice A5 (tot l l.length) c5) (wrN l l.length) → Calls Try.prog 10 #[.slice A5 (tot l l.length - 1) c5] u fun e w' => e = .returned (.tuple #[.slice none 0 0, iv 0, iv 11]) ∧ Only Nix u w') := Lib.hid (fun u A5 c5 hv => by
        have hr := read_short hgd hl0 hsz
        have hc := hv.cap _ _ _ rfl
        have hv2 : CSrc u (.slice A5 (tot l l.length - 1) c5) ((wrN l l.length).take (tot l l.length - 1)) := ⟨hv.src.take _ c5 (by omega), fun _ _ _ e => by injection e with _ e2 e3; omega⟩
        refine (read_any hv2 (by rw [List.length_take]; omega)).mono ?_
        rintro e w' ⟨h1, h2⟩
        rw [hr, if_neg (by decide)] at h1
        exact ⟨h1, h2⟩)
      have HTp : Hid (0 < tot l l.length ∧ tot l l.length ≤ 20000) := Lib.hid ⟨by omega, htf⟩
      have HLw : Hid ((wrN l l.length).length = tot l l.length) := Lib.hid hwl
      have HLt := Lib.hid hlt
      clear hl0 hgd hsz hwl ht4 htf hwb hlt h0 g1
      obtain ⟨WB, hWB⟩ : ∃ z, wrN l l.length = z := ⟨_, rfl⟩
      rw [hWB] at HW2 HRm HRs HLw HLt
      obtain ⟨N, hN⟩ : ∃ z, tot l l.length = z := ⟨_, rfl⟩
      rw [hN] at HW2 HRm HRs HTp HLw
      clear hWB hN
      have hn1 : (N : Int) - 1 = ((N - 1 : Nat) : Int) := by have := HTp.out; omega
      have hnp : (1 : Int) ≤ (N : Int) := by have := HTp.out; omega
      have hn20 : N ≤ 20000 := HTp.out.2
      go_enter Try.func4, Try.ntmps4
      go_wp2_with fail
      refine (HFw.out).mono ?_
      rintro e w1 ⟨rfl, o1⟩
      have HO1 := Lib.hid o1
      have HW1 := Lib.hid (HWr.out w1 o1)
      clear o1
      go_wp2_with fail
      refine (HW1.out).mono ?_
      intro e w2 hw2
      obtain ⟨A5, c5, rfl, s5, hc5, o2⟩ := HW2.out w1 e w2 hw2
      have HO2 := Lib.hid (HO1.out.trans o2)
      have HS5 := Lib.hid s5
      have HC5 := Lib.hid hc5
      clear hw2 o2 s5 HW1
      go_wp2_with (at_builtin; refine wpList_append_bytes rfl (.tmp 38) (.tmp 39) rfl w2.heap.size (.slice none 0 0) 0 [] rfl ⟨rfl, .inl ⟨rfl, rfl⟩⟩ A5 N c5 WB rfl HS5.out.src (by omega) (Nat.le_refl _) ?rest1)
      case rest1 =>
        intro v3 w3 r3 g3 m3
        have HR3 := Lib.hid r3
        have k3 : Only Nix w2 w3 := (Only.refl Nix w2).grown g3 (fun k e => by cases e)
        have HK3 := Lib.hid k3
        have HO3 := Lib.hid (HO2.out.trans k3)
        have HB3 := Lib.hid ((HB.out.nix HO3.out).src)
        clear r3 g3 m3 k3
        go_wp2_with (at_builtin; refine wpList_append_bytes rfl (.tmp 41) (.tmp 42) rfl w2.heap.size v3 _ _ rfl HR3.out B bs.length d bs rfl HB3.out (by omega) HK3.out.size ?rest2)
        case rest2 =>
          intro v4 w4 r4 g4 m4
          have k4 : Only Nix w2 w4 := HK3.out.grown g4 (fun k e => .inr (HR3.out.lt k e).1)
          have HO4 := Lib.hid (HO2.out.trans k4)
          have hO4 : Owns w4 w2.heap.size 5 byt v4 (WB ++ bs) := by
            unfold Owns
            rw [List.length_append, List.map_append, HLw.out]
            simpa using r4
          have hc4 := hO4.csrc (by rw [List.length_append, HLw.out]; omega) (fun x hx => (List.mem_append.1 hx).elim (HLt.out x) (HB.out.src.lt x))
          have HM4 := Lib.hid (HRm.out w4 v4 hc4)
          have HS54 := Lib.hid (HS5.out.nix k4)
          clear r4 g4 m4 k4 hO4 hc4
          go_wp2_with fail
          refine (HM4.out).mono ?_
          rintro e w5 ⟨v5, rfl, s5, o5⟩
          have HO5 := Lib.hid (HO4.out.trans o5)
          have HS55 := Lib.hid (HS54.out.nix o5)
          have HSm := Lib.hid (sameB_any s5 (HL.out.nix HO5.out))
          clear s5 o5 HM4
          go_wp2_with fail
          refine (HSm.out).mono ?_
          rintro e w6 ⟨rfl, o6⟩
          have HO6 := Lib.hid (HO5.out.trans o6)
          have HSh := Lib.hid (HRs.out w6 A5 c5 (HS55.out.nix o6))
          clear o6 HSm
          have hnc : ((N - 1 : Nat) : Int) ≤ (c5 : Int) := by have := HC5.out; omega
          go_wp2_with fail
          refine (HSh.out).mono ?_
          rintro e w7 ⟨rfl, o7⟩
          have HO := Lib.hid (HO6.out.trans o7)
          clear o7 HSh
          have HRx := Lib.hid (HRb.out _ HO.out)
          go_wp2_with fail
          refine (HRx.out).mono ?_
          intro e w8 hw8
          obtain ⟨hw8, o8⟩ := HRb2.out _ e w8 hw8
          have HO8 := Lib.hid (HO.out.trans o8)
          clear o8 HRx
          by_cases hE : E = 0
          · rw [if_pos hE] at hw8
            obtain ⟨v8, rfl, s8⟩ := hw8
            obtain ⟨hX, hwk⟩ := HWk.out hE
            have HWx := Lib.hid (hwk w8 v8 s8)
            have HEx := Lib.hid (HEq.out hE)
            have hXi : (X : Int) ≤ (bs.length : Int) := by omega
            have hXd : (X : Int) ≤ (d : Int) := by omega
            clear hE hwk s8
            go_wp2_with fail
            refine (HWx.out).mono ?_
            rintro e w9 ⟨v9, rfl, s9, o9⟩
            have HO9 := Lib.hid (HO8.out.trans o9)
            have HE9 := Lib.hid (HEx.out w9 v9 HO9.out s9)
            clear s9 o9 HWx
            go_wp2_with fail
            refine (HE9.out).mono ?_
            rintro e w10 ⟨rfl, o10⟩
            have HO10 := Lib.hid (HO9.out.trans o10)
            have HA10 := Lib.hid (HAw.out w10)
            clear o10 HE9
            go_wp2_with fail
            refine (HA10.out).mono ?_
            rintro e w11 ⟨rfl, o11⟩
            have HO11 := Lib.hid (HO10.out.trans o11)
            clear o11
            go_wp2
            go_ret
            exact ⟨rfl, HO11.out⟩
          · rw [if_neg hE] at hw8
            subst hw8
            have hEb : (E != 0) = true := by simpa using hE
            have HA10 := Lib.hid (HAw.out w8)
            clear hE HWk HEq
            go_wp2_with fail
            refine (HA10.out).mono ?_
            rintro e w11 ⟨rfl, o11⟩
            have HO11 := Lib.hid (HO8.out.trans o11)
            clear o11
            go_wp2
            go_ret
            exact ⟨rfl, HO11.out⟩
    · have HW2 : Hid (∀ u e w', WtR u l e w' → ∃ v, e = .returned (.tuple #[v, iv (wE l)]) ∧ Only Nix u w') := Lib.hid (fun u e w' h => by
        obtain ⟨⟨v, rfl, hown⟩, ho⟩ := h
        exact ⟨v, rfl, ho⟩)
      have hne : (wE l == 0) = false := by simpa using h0
      generalize wE l = WE at *
      clear h0 g1
      go_enter Try.func4, Try.ntmps4
      go_wp2_with fail
      refine (HFw.out).mono ?_
      rintro e w1 ⟨rfl, o1⟩
      have HO1 := Lib.hid o1
      have HW1 := Lib.hid (HWr.out w1 o1)
      clear o1
      go_wp2_with fail
      refine (HW1.out).mono ?_
      intro e w2 hw2
      obtain ⟨v2, rfl, o2⟩ := HW2.out w1 e w2 hw2
      have HO := Lib.hid (HO1.out.trans o2)
      clear hw2 o2 HW1
      have HRx := Lib.hid (HRb.out _ HO.out)
      go_wp2_with fail
      refine (HRx.out).mono ?_
      intro e w8 hw8
      obtain ⟨hw8, o8⟩ := HRb2.out _ e w8 hw8
      have HO8 := Lib.hid (HO.out.trans o8)
      clear o8 HRx
      by_cases hE : E = 0
      · rw [if_pos hE] at hw8
        obtain ⟨v8, rfl, s8⟩ := hw8
        obtain ⟨hX, hwk⟩ := HWk.out hE
        have HWx := Lib.hid (hwk w8 v8 s8)
        have HEx := Lib.hid (HEq.out hE)
        have hXi : (X : Int) ≤ (bs.length : Int) := by omega
        have hXd : (X : Int) ≤ (d : Int) := by omega
        clear hE hwk s8
        go_wp2_with fail
        refine (HWx.out).mono ?_
        rintro e w9 ⟨v9, rfl, s9, o9⟩
        have HO9 := Lib.hid (HO8.out.trans o9)
        have HE9 := Lib.hid (HEx.out w9 v9 HO9.out s9)
        clear s9 o9 HWx
        go_wp2_with fail
        refine (HE9.out).mono ?_
        rintro e w10 ⟨rfl, o10⟩
        have HO10 := Lib.hid (HO9.out.trans o10)
        have HA10 := Lib.hid (HAw.out w10)
        clear o10 HE9
        go_wp2_with fail
        refine (HA10.out).mono ?_
        rintro e w11 ⟨rfl, o11⟩
        have HO11 := Lib.hid (HO10.out.trans o11)
        clear o11
        go_wp2
        go_ret
        exact ⟨rfl, HO11.out⟩
      · rw [if_neg hE] at hw8
        subst hw8
        have hEb : (E != 0) = true := by simpa using hE
        have HA10 := Lib.hid (HAw.out w8)
        clear hE HWk HEq
        go_wp2_with fail
        refine (HA10.out).mono ?_
        rintro e w11 ⟨rfl, o11⟩
        have HO11 := Lib.hid (HO8.out.trans o11)
        clear o11
        go_wp2
        go_ret
        exact ⟨rfl, HO11.out⟩
  · rw [decide_eq_false g1] at HFw
    clear g1
    go_enter Try.func4, Try.ntmps4
    go_wp2_with fail
    refine (HFw.out).mono ?_
    rintro e w1 ⟨rfl, o1⟩
    have HO1 := Lib.hid o1
    have HA1 := Lib.hid (HAw.out w1)
    clear o1
    go_wp2_with fail
    refine (HA1.out).mono ?_
    rintro e w2 ⟨rfl, o2⟩
    have HO2 := Lib.hid (HO1.out.trans o2)
    clear o2
    go_wp2
    go_ret
    exact ⟨rfl, HO2.out⟩
end Go.Proofs.Ytighdjbeddcckaa
