/-
  The document's Low, low and Comments.
-/
import Derived.Test.YtphpciglpnbblaaDoorTP1
import Derived.Test.YtphpciglpnbblaaDoorTE
import Derived.Test.YtphpciglpnbblaaDoorTPA
namespace Go.Proofs.YtphpciglpnbblaaDoor
open Go.RowKit Go.Shelf

theorem le_form (n : Nat) : le n = [n % 256, n / 256 % 256, n / 65536 % 256, n / 16777216 % 256] := by
  unfold le
  simp only [List.range_succ, List.range_zero, List.nil_append, List.cons_append, List.map_cons, List.map_nil, Nat.mul_zero, Nat.pow_zero, Nat.div_one, Nat.reduceMul, Nat.reducePow]
theorem four_src (w : World) (a b c d : Nat) (ha : a < 256) (hb : b < 256) (hc : c < 256) (hd : d < 256) : CSrc (w.alloc (.cells #[byt a, byt b, byt c, byt d] 5)) (.slice (some ⟨w.heap.size, 0, none⟩) 4 4) [a, b, c, d] := by
  refine ⟨Src.of_cells rfl (fun j hj => ?_) (by simp) (by simp; omega), fun _ _ _ e => by injection e with _ e2 e3; omega⟩
  have hb := Box.new w 5 #[byt a, byt b, byt c, byt d]
  rw [Nat.zero_add, hb.cell]
  match j, hj with
  | 0, _ => rfl
  | 1, _ => rfl
  | 2, _ => rfl
  | 3, _ => rfl
/-- bytes b... (nil, empty or not), appended: what is owned then -/
theorem app_bytes {w : World} {ops : Array Oper} {rest : List Oper} {o : Oper} {a : Act} {Q : Exit → Act → World → Prop} (hgd : o.guard = none) (s x : Operand)
    (ho : o.op = .call { callee := .builtin .append, args := #[s, x], argTypes := #[25, 25] })
    (base : Nat) (v : Value) (xs : List Nat) (hs : a.eval s = v) (hown : Owns w base 5 byt v xs)
    (A : Option Addr) (m c : Nat) (bs : List Nat) (hx : a.eval x = .slice A m c) (hsrc : Src w (.slice A m c) bs) (h63 : xs.length + m ≤ 1000000) (hbase : base ≤ w.heap.size)
    (h : ∀ v' w', Owns w' base 5 byt v' (xs ++ bs) → w.grownBy w' v.ownBlock → (v'.ownBlock = v.ownBlock ∨ v'.ownBlock = some w.heap.size) → wpList Tryd.prog ops Q rest (a.put o.dst v') w') :
    wpList Tryd.prog ops Q (o :: rest) a w :=
  wpList_append_bytes hgd s x ho base v xs.length (xs.map byt) hs hown A m c bs hx hsrc h63 hbase (fun v' w' h1 h2 h3 => h v' w' (by
    unfold Owns
    rw [List.length_append, List.map_append, ← hsrc.len]
    exact h1) h2 h3)
theorem ls_len0 (l : List ByteArray) : l.length ≤ szL l := by
  induction l with
  | nil => simp
  | cons s l ih => simp [szL] at *; omega
theorem Low_any {w : World} (n : Nat) (hn : n < 9223372036854775808) : Calls Tryd.prog 28 #[iv n] w fun e w' => (∃ v, e = .returned v ∧ CSrc w' v (le n)) ∧ Only Nix w w' := by
  have h4 := four_src w (n % 256) (n / 256 % 256) (n / 65536 % 256) (n / 16777216 % 256) (Nat.mod_lt _ (by decide)) (Nat.mod_lt _ (by decide)) (Nat.mod_lt _ (by decide)) (Nat.mod_lt _ (by decide))
  have ho := (Only.refl Nix w).alloc (.cells #[byt (n % 256), byt (n / 256 % 256), byt (n / 65536 % 256), byt (n / 16777216 % 256)] 5)
  rw [← le_form] at h4
  unfold byt at h4 ho
  obtain ⟨L, hL⟩ : ∃ L, le n = L := ⟨_, rfl⟩
  rw [hL] at h4 ⊢
  clear hL
  rw [show ((n % 256 : Nat) : Int) = (n : Int) % 256 by omega, show ((n / 256 % 256 : Nat) : Int) = (n : Int) / 256 % 256 by omega, show ((n / 65536 % 256 : Nat) : Int) = (n : Int) / 65536 % 256 by omega, show ((n / 16777216 % 256 : Nat) : Int) = (n : Int) / 16777216 % 256 by omega] at h4 ho
  have HS := Lib.hid h4
  have HO := Lib.hid ho
  clear h4 ho
  go_enter Tryd.func28, Tryd.ntmps28
  go_wp2
  go_ret
  exact ⟨⟨_, rfl, HS.out⟩, HO.out⟩
def RfRel (w : World) (pre : List Nat) (l : List ByteArray) (s6 s7 : Value) (wr : World) : Prop := ∃ j : Nat, j ≤ l.length ∧ s7 = iv j ∧ Owns wr w.heap.size 5 byt s6 (pre ++ cmB (l.take j)) ∧ (∀ s ∈ l.take j, isC s = true) ∧ Only Nix w wr
theorem cmE_pos (s : ByteArray) : (isC s = true ∧ ∃ k : Nat, cmE s = k) ∨ (isC s = false ∧ cmE s = -1) := by
  unfold cmE
  by_cases h : isC s = true
  · obtain ⟨k, h1, _⟩ := isC_pos h
    exact .inl ⟨h, k, by rw [if_pos h, h1]⟩
  · exact .inr ⟨by simpa using h, by rw [if_neg h]⟩
set_option maxRecDepth 100000 in
set_option maxHeartbeats 8000000 in
theorem comments13_any {w : World} {V : ByteArray} {x : Value} {l : List ByteArray} (hs : SSrc w x l) (hz : 8 + V.size + szL l ≤ 80000) :
    Calls Tryd.prog 10 #[.string V, x] w fun e w' => WtR w (ckE V l) (wrC V l) e w' := by
  obtain ⟨A, c, rfl, hcap⟩ := hs.slice
  have hsm := hs.small
  have HS := Lib.hid hs
  have HTx := Lib.hid (text13_any (w := w) V (by omega))
  have HZ := Lib.hid hz
  have HLt : Hid (∀ j, szL (l.take j) ≤ szL l) := Lib.hid (fun j => szL_take l j)
  have HTl : Hid (l.take l.length = l) := Lib.hid (List.take_length)
  have hVs : V.size ≤ 80000 := by omega
  have hLn : l.length ≤ 80000 := by have := ls_len0 l; omega
  have HWr0 : Hid (wrC V l = (le V.size ++ nb V ++ le l.length) ++ cmB l) := Lib.hid rfl
  have HE : Hid (ckE V l = if isT V = true ∧ l.any (fun s => !isC s) = false then 0 else 12) := Lib.hid rfl
  have HQ : Hid (∀ v w', ckE V l = 0 → Owns w' w.heap.size 5 byt v (wrC V l) → Only Nix w w' → WtR w (ckE V l) (wrC V l) (.returned (.tuple #[v, iv 0])) w') := Lib.hid (fun v w' h0 ho hn => ⟨⟨v, by rw [h0], by rw [if_pos h0]; exact ho⟩, hn⟩)
  have HQ2 : Hid (∀ w', ckE V l = 12 → Only Nix w w' → WtR w (ckE V l) (wrC V l) (.returned (.tuple #[.slice none 0 0, iv 12])) w') := Lib.hid (fun w' h0 hn => ⟨⟨_, by rw [h0], by rw [h0, if_neg (by decide)]; exact Owns.nil _ _ _ _⟩, hn⟩)
  have HLow : Hid (∀ u n, n ≤ 80000 → Calls Tryd.prog 28 #[iv (n : Nat)] u fun e w' => (∃ v, e = .returned v ∧ CSrc w' v (le n)) ∧ Only Nix u w') := Lib.hid (fun u n hn => Low_any n (by omega))
  have HCm : Hid (∀ u, ∀ s ∈ l, Calls Tryd.prog 20 #[.string s] u fun e w' => e = .returned (iv (cmE s)) ∧ u = w') := Lib.hid (fun u s hs1 => comment13_any s (by
    obtain ⟨a, b, rfl⟩ := List.append_of_mem hs1
    have : szL (a ++ s :: b) = szL a + (4 + s.size + szL b) := by unfold szL; simp
    omega))
  generalize WtR w (ckE V l) (wrC V l) = QQ at *
  generalize ckE V l = E at *
  generalize wrC V l = WB at *
  obtain ⟨T, hT⟩ : ∃ T, isT V = T := ⟨_, rfl⟩
  rw [hT] at HTx HE
  clear hs hcap hz hT
  cases T with
  | false =>
    have hE2 : E = 12 := by rw [HE.out]; rfl
    have HF := Lib.hid (HQ2.out w hE2 (Only.refl _ _))
    clear hE2
    go_enter Tryd.func10, Tryd.ntmps10
    go_wp2_with fail
    refine (HTx.out).mono ?_
    rintro e w1 ⟨rfl, rfl⟩
    go_wp2
    exact HF.out
  | true =>
    have HL1 := Lib.hid (HLow.out w V.size hVs)
    go_enter Tryd.func10, Tryd.ntmps10
    go_wp2_with fail
    refine (HTx.out).mono ?_
    rintro e w1 ⟨rfl, rfl⟩
    go_wp2_with fail
    refine (HL1.out).mono ?_
    rintro e w2 ⟨⟨v2, rfl, hv2⟩, ho⟩
    have HO2 := Lib.hid ho
    have HV2 := Lib.hid hv2
    have hl2 := le_len V.size
    obtain ⟨A2, c2, rfl, _⟩ := hv2.form
    clear ho hv2
    go_wp2_with (at_builtin; refine app_bytes rfl (.tmp 11) (.tmp 14) rfl w.heap.size (.slice none 0 0) [] rfl (Owns.nil w2 w.heap.size 5 byt) A2 (le V.size).length c2 (le V.size) rfl HV2.out.src ?len3 HO2.out.size ?rest3)
    case len3 => rw [le_len, List.length_nil]; decide
    case rest3 =>
      intro v3 w3 h3 g3 m3
      have HM3 : Hid (Owns w3 w.heap.size 5 byt v3 (le V.size)) := Lib.hid (by simpa only [List.nil_append] using h3)
      have HO3 := Lib.hid (HO2.out.grown g3 (fun k hk => by cases hk))
      clear h3 g3 m3 hl2
      go_wp2_with (at_builtin; refine app_str rfl (.tmp 16) (.tmp 17) rfl w.heap.size v3 (le V.size) rfl HM3.out V rfl ?len4 HO3.out.size ?rest4)
      case len4 => have := HZ.out; rw [le_len]; omega
      case rest4 =>
        intro v4 w4 h4 g4 m4
        have HM4 := Lib.hid h4
        have HO4 := Lib.hid (HO3.out.grown g4 (fun k hk => .inr (HM3.out.lt hk).1))
        have HL5 := Lib.hid (HLow.out w4 l.length hLn)
        clear h4 g4 m4
        go_wp2_with fail
        refine (HL5.out).mono ?_
        rintro e w5 ⟨⟨v5, rfl, hv5⟩, ho⟩
        have HO5 := Lib.hid (HO4.out.trans ho)
        have HM5 := Lib.hid (HM4.out.nix ho)
        have HV5 := Lib.hid hv5
        obtain ⟨A5, c5, rfl, _⟩ := hv5.form
        clear ho hv5
        go_wp2_with (at_builtin; refine app_bytes rfl (.tmp 19) (.tmp 22) rfl w.heap.size v4 (le V.size ++ nb V) rfl HM5.out A5 (le l.length).length c5 (le l.length) rfl HV5.out.src ?len6 HO5.out.size ?rest6)
        case len6 => have := HZ.out; simp only [List.length_append, le_len, nb_len]; omega
        case rest6 =>
          intro v6 w6 h6 g6 m6
          have HM6 : Hid (Owns w6 w.heap.size 5 byt v6 (le V.size ++ nb V ++ le l.length)) := Lib.hid (by simpa only [List.append_assoc] using h6)
          have HO6 := Lib.hid (HO5.out.grown g6 (fun k hk => .inr (HM5.out.lt hk).1))
          have HPl : Hid ((le V.size ++ nb V ++ le l.length).length = 8 + V.size) := Lib.hid (by simp only [List.length_append, le_len, nb_len]; omega)
          have HWr := HWr0
          generalize le V.size ++ nb V ++ le l.length = pre at *
          clear h6 g6 m6
          go_wp2
          go_loopw [6, 7] (fun s6 s7 wr => RfRel w pre l s6 s7 wr) (fun _ s7 _ => l.length - (intOf s7).toNat)
          case atStart => exact ⟨0, Nat.zero_le _, rfl, by simpa [cmB] using HM6.out, fun s h => by simp at h, HO6.out⟩
          case round =>
            obtain ⟨j, hj, rfl, hown, hall, ho⟩ := hrel
            have HW := Lib.hid hown
            have HOj := Lib.hid ho
            have HAl := Lib.hid hall
            clear hall
            by_cases hlt : j < l.length
            · obtain ⟨ad, rfl, hxw⟩ := HS.out.at_ hlt
              have hx := cell_keep ho hxw
              have hlti : (j : Int) < (l.length : Int) := by omega
              have HTk := Lib.hid (List.take_succ_eq_append_getElem hlt)
              have HM := Lib.hid (List.getElem_mem hlt)
              have HLj := Lib.hid (HLt.out (j + 1))
              rw [HTk.out, szL_snoc] at HLj
              have HX0 := Lib.hid hxw
              clear hxw
              generalize l[j] = s at *
              have hss : s.size ≤ 80000 := by have := HLj.out; have := HZ.out; omega
              have HLen : Hid ((pre ++ cmB (l.take j)).length + 4 + s.size ≤ 80000) := Lib.hid (by
                have := HLj.out; have := HZ.out; have := HPl.out; rw [List.length_append, cmB_len]; omega)
              have hcb : Hid (pre ++ cmB (l.take (j + 1)) = pre ++ cmB (l.take j) ++ le s.size ++ nb s) := Lib.hid (by rw [HTk.out, cmB_snoc]; simp only [List.append_assoc])
              have HCj := Lib.hid (HCm.out wr s HM.out)
              clear hown ho
              go_wp2_with fail
              refine (HCj.out).mono ?_
              rintro e w7 ⟨rfl, rfl⟩
              rcases cmE_pos s with ⟨hc, k, hk⟩ | ⟨hc, hk⟩
              · have hki : ¬ (k : Int) < 0 := by omega
                rw [hk]
                have HLs := Lib.hid (HLow.out wr s.size hss)
                have HAn : Hid (∀ t ∈ l.take (j + 1), isC t = true) := Lib.hid (fun t ht => by
                  rw [HTk.out] at ht
                  rcases List.mem_append.1 ht with h | h
                  · exact HAl.out t h
                  · rw [List.mem_singleton.1 h]; exact hc)
                clear hk
                go_wp2_with fail
                refine (HLs.out).mono ?_
                rintro e w8 ⟨⟨v8, rfl, hv8⟩, ho⟩
                have HO8 := Lib.hid (HOj.out.trans ho)
                have HM8 := Lib.hid (HW.out.nix ho)
                have HV8 := Lib.hid hv8
                have hx8 := cell_keep ho hx
                obtain ⟨A8, c8, rfl, _⟩ := hv8.form
                clear ho hv8 hx
                go_wp2_with (at_builtin; refine app_bytes rfl (.tmp 36) (.tmp 42) rfl w.heap.size u6 (pre ++ cmB (l.take j)) rfl HM8.out A8 (le s.size).length c8 (le s.size) rfl HV8.out.src ?len9 HO8.out.size ?rest9)
                case len9 => have := HLen.out; rw [le_len]; omega
                case rest9 =>
                  intro v9 w9 h9 g9 m9
                  have HM9 : Hid (Owns w9 w.heap.size 5 byt v9 (pre ++ cmB (l.take j) ++ le s.size)) := Lib.hid (by simpa only [List.append_assoc] using h9)
                  have HO9 := Lib.hid (HO8.out.grown g9 (fun k hk => .inr (HM8.out.lt hk).1))
                  have hx9 := cell_keep HO9.out HX0.out
                  clear h9 g9 m9 hx8
                  go_wp2_with (at_builtin; refine app_str rfl (.tmp 44) (.tmp 48) rfl w.heap.size v9 (pre ++ cmB (l.take j) ++ le s.size) rfl HM9.out s rfl ?lenA HO9.out.size ?restA)
                  case lenA => have := HLen.out; rw [List.length_append, le_len]; omega
                  case restA =>
                    intro vA wA hA gA mA
                    have HMA := Lib.hid hA
                    have HOA := Lib.hid (HO9.out.grown gA (fun k hk => .inr (HM9.out.lt hk).1))
                    clear hA gA mA hx9
                    go_wp2
                    go_roundw
                    case rel => exact ⟨j + 1, hlt, by go_num, by rw [hcb.out]; simpa only [List.append_assoc] using HMA.out, HAn.out, HOA.out⟩
                    case measure => simp [intOf]; omega
              · have hE2 : E = 12 := by
                  rw [HE.out, if_neg]
                  rintro ⟨-, h2⟩
                  have := (List.any_eq_false.1 h2) s HM.out
                  simp [hc] at this
                have HF := Lib.hid (HQ2.out wr hE2 HOj.out)
                rw [hk]
                clear hE2 hk hx
                go_wp2
                exact HF.out
            · have hlti : ¬ (j : Int) < (l.length : Int) := by omega
              have hjl : j = l.length := by omega
              have hE0 : E = 0 := by
                rw [HE.out, if_pos]
                refine ⟨trivial, List.any_eq_false.2 fun s hs => ?_⟩
                have := HAl.out s (by rw [hjl, HTl.out]; exact hs)
                simp [this]
              have hO2 : Owns wr w.heap.size 5 byt u6 WB := by
                rw [HWr.out]
                have := HW.out
                rw [hjl, HTl.out] at this
                exact this
              have HF := Lib.hid (HQ.out u6 wr hE0 hO2 HOj.out)
              clear hE0 hO2 hown ho hjl
              go_wp2
              exact HF.out
end Go.Proofs.YtphpciglpnbblaaDoor
