/-
  Comments: Get.
-/
import Derived.Test.YtphpciglpnbblaaDoorTC
import Derived.Test.YtphpciglpnbblaaDoorTW
namespace Go.Proofs.YtphpciglpnbblaaDoor
open Go.RowKit Go.Shelf

/-- a letter made small -/
def smR (r : Int) : Int := if 65 ≤ r ∧ r ≤ 90 then r + 32 else r
/-- a name in small letters -/
def smS (s : ByteArray) : ByteArray := ⟨(Lib.mapD smR s.data.toList).toArray⟩
theorem small1_any {w : World} (r : Nat) (hr : r ≤ 1114111) : Calls Tryd.prog 58 #[.int .i32 (r : Int)] w fun e w' => e = .returned (.int .i32 (smR r)) ∧ w = w' := by
  by_cases h1 : 65 ≤ r
  · have h1i : (65 : Int) ≤ (r : Int) := by omega
    by_cases h2 : r ≤ 90
    · have h2i : (r : Int) ≤ 90 := by omega
      have HB : Hid (smR r = (r : Int) - 65 + 97) := Lib.hid (by unfold smR; rw [if_pos ⟨h1i, h2i⟩]; omega)
      have hw1 : IntKind.i32.wrap ((r : Int) - 65) = (r : Int) - 65 := by rw [IntKind.wrap_i32]; omega
      have hw2 : IntKind.i32.wrap ((r : Int) - 65 + 97) = (r : Int) - 65 + 97 := by rw [IntKind.wrap_i32]; omega
      go_enter Tryd.func58, Tryd.ntmps58
      go_wp2
      go_ret
      exact ⟨by rw [HB.out]; rfl, rfl⟩
    · have h2i : decide ((r : Int) ≤ 90) = false := by simp; omega
      have h2j : decide (r ≤ 90) = false := by simp; omega
      have HB : Hid (smR r = (r : Int)) := Lib.hid (by unfold smR; rw [if_neg (by omega)])
      go_enter Tryd.func58, Tryd.ntmps58
      go_wp2
      go_ret
      exact ⟨by rw [HB.out]; rfl, rfl⟩
  · have h1i : decide ((65 : Int) ≤ (r : Int)) = false := by simp; omega
    have h1j : decide (65 ≤ r) = false := by simp; omega
    have HB : Hid (smR r = (r : Int)) := Lib.hid (by unfold smR; rw [if_neg (by omega)])
    go_enter Tryd.func58, Tryd.ntmps58
    go_wp2
    go_ret
    exact ⟨by rw [HB.out]; rfl, rfl⟩
theorem small_any {w : World} (s : ByteArray) (hs : s.size ≤ 1000000) (hT : Tabs w) : Calls Tryd.prog 46 #[.string s] w fun e w' => e = .returned (.string (smS s)) ∧ Only Nix w w' := by
  have hM := Lib.hid ((Tryd.strings_Map_runes 58 #[] (enters_of Tryd.func58 (by kernel_rfl) rfl) smR s w (by omega) (fun W x hx _ => (small1_any x hx).mono (fun e w' h => ⟨h.1, 0, h.2.symm⟩)) (fun x hx => by unfold smR; split <;> omega) hT).mono (fun e w' h => (⟨h.1, Only.ofBelow h.2 (Nat.le_refl _)⟩ : e = .returned (.string (smS s)) ∧ Only Nix w w')))
  generalize smS s = B at *
  clear hT
  go_enter Tryd.func46, Tryd.ntmps46
  go_wp2_with fail
  refine (hM.out).mono ?_
  rintro e w1 ⟨rfl, ho⟩
  go_wp2
  go_ret
  exact ⟨rfl, ho⟩
/-- the values of the comments of a name -/
def gtL (nm : ByteArray) (l : List ByteArray) : List ByteArray := (l.filter fun s => isC s && decide (smS (ptN s) = smS nm)).map ptV
theorem gtL_snoc (nm : ByteArray) (l : List ByteArray) (s : ByteArray) : gtL nm (l ++ [s]) = gtL nm l ++ (if isC s = true ∧ smS (ptN s) = smS nm then [ptV s] else []) := by
  unfold gtL
  rw [List.filter_append, List.map_append]
  congr 1
  by_cases h1 : isC s = true
  · by_cases h2 : smS (ptN s) = smS nm
    · simp [h1, h2]
    · simp [h1, h2]
  · simp [h1]
theorem gtL_len (nm : ByteArray) (l : List ByteArray) : (gtL nm l).length ≤ l.length := by
  unfold gtL
  rw [List.length_map]
  exact List.length_filter_le _ _
def GtR (w : World) (R : List ByteArray) (e : Ending) (w' : World) : Prop := (∃ v, e = .returned v ∧ Owns w' w.heap.size 9 Value.string v R) ∧ Only Nix w w'
def GtRel (w : World) (nm : ByteArray) (l : List ByteArray) (s5 s16 : Value) (wr : World) : Prop := ∃ j : Nat, j ≤ l.length ∧ s16 = iv j ∧ Owns wr w.heap.size 9 Value.string s5 (gtL nm (l.take j)) ∧ Only Nix w wr
theorem ptN_size (s : ByteArray) : (ptN s).size ≤ s.size := by
  unfold ptN
  split
  · exact Nat.le_refl _
  · rw [← nb_len, nb_extract, List.length_drop, List.length_take, nb_len]
    omega
set_option maxRecDepth 100000 in
set_option maxHeartbeats 8000000 in
theorem get_any {w : World} {V nm : ByteArray} {x : Value} {l : List ByteArray} (hs : SSrc w x l) (hn : nm.size ≤ 1000000) (hl : l.length ≤ 90000) (hla : ∀ s ∈ l, s.size ≤ 1000000) (hT : Tabs w) :
    Calls Tryd.prog 23 #[cmV V x, .string nm] w fun e w' => GtR w (gtL nm l) e w' := by
  obtain ⟨A, c, rfl, hcap⟩ := hs.slice
  have hsm := hs.small
  obtain ⟨W1, hW1⟩ : ∃ W1, w.alloc (.cells #[.string V, .slice A l.length c] 24) = W1 := ⟨_, rfl⟩
  have b1 := Box.new w 24 #[.string V, .slice A l.length c]
  have a1 := Lib.hid ((Only.refl Nix w).alloc (.cells #[.string V, .slice A l.length c] 24))
  have HS0 := Lib.hid hs
  rw [hW1] at b1 a1
  have HB := Lib.hid b1
  have HT1 := Lib.hid (hT.nix a1.out)
  have H1 := Lib.hid (small_any (w := W1) nm hn (hT.nix a1.out))
  have H2 : Hid (∀ u, Only Nix w u → ∀ s ∈ l, Calls Tryd.prog 46 #[.string (ptN s)] u fun e w' => e = .returned (.string (smS (ptN s))) ∧ Only Nix u w') := Lib.hid (fun u hu s h => small_any _ (Nat.le_trans (ptN_size s) (hla s h)) (hT.nix hu))
  have H3 : Hid (∀ u, Only Nix w u → ∀ s ∈ l, Calls Tryd.prog 47 #[.string s] u fun e w' => e = .returned (PtR s) ∧ Only Nix u w') := Lib.hid (fun u hu s h => parts_any s (hla s h) (hT.nix hu))
  have HTl : Hid (l.take l.length = l) := Lib.hid (List.take_length)
  have HGl : Hid (∀ j, j ≤ l.length → (gtL nm (l.take j)).length ≤ 90000) := Lib.hid (fun j hj => by have := gtL_len nm (l.take j); rw [List.length_take] at this; omega)
  have HSn := Lib.hid (gtL_snoc nm)
  clear b1 hs hcap hT hla
  go_enter Tryd.func23, Tryd.ntmps23
  go_wp2_with fail
  refine (H1.out).mono ?_
  rintro e w2 ⟨rfl, ho⟩
  have HO2w := Lib.hid (a1.out.trans ho)
  have hb2 := HB.out.only ho (fun e => e)
  have c1 := hb2.cell 1
  simp only [List.getElem?_toArray, List.getElem?_cons_zero, List.getElem?_cons_succ] at c1
  generalize smS nm = NM at *
  clear ho hb2
  go_wp2
  go_loopw [5, 16] (fun s5 s16 wr => GtRel w nm l s5 s16 wr) (fun _ s16 _ => l.length - (intOf s16).toNat)
  case atStart => exact ⟨0, Nat.zero_le _, rfl, Owns.nil _ _ _ _, HO2w.out⟩
  case round =>
    obtain ⟨j, hj, rfl, hown, ho⟩ := hrel
    have HW := Lib.hid hown
    have HOj := Lib.hid ho
    by_cases hlt : j < l.length
    · obtain ⟨ad, rfl, hx⟩ := (HS0.out.nix HOj.out).at_ hlt
      have hlti : (j : Int) < (l.length : Int) := by omega
      have HTk := Lib.hid (List.take_succ_eq_append_getElem hlt)
      have HM := Lib.hid (List.getElem_mem hlt)
      have HLj := Lib.hid (HGl.out j hj)
      generalize l[j] = s at *
      have HPj := Lib.hid (H3.out wr HOj.out s HM.out)
      have HSm : Hid (∀ u, Only Nix wr u → Calls Tryd.prog 46 #[.string (ptN s)] u fun e w' => e = .returned (.string (smS (ptN s))) ∧ Only Nix u w') := Lib.hid (fun u hu => H2.out u (HOj.out.trans hu) s HM.out)
      have HSj := Lib.hid (HSn.out (l.take j) s)
      unfold PtR at HPj
      generalize isC s = C at *
      generalize smS (ptN s) = SN at *
      generalize ptN s = N at *
      generalize ptV s = VV at *
      clear hown ho
      go_wp2_with fail
      refine (HPj.out).mono ?_
      rintro e w3 ⟨rfl, ho⟩
      have HO3 := Lib.hid ho
      have HSj3 := Lib.hid (HSm.out w3 ho)
      have HW3 := Lib.hid (HW.out.nix ho)
      clear ho hx
      cases C with
      | false =>
        have HSk : Hid (gtL nm (l.take j ++ [s]) = gtL nm (l.take j)) := Lib.hid (by rw [HSj.out, if_neg (fun h => by cases h.1), List.append_nil])
        go_wp2
        go_roundw
        case rel => exact ⟨j + 1, hlt, by go_num, by rw [HTk.out, HSk.out]; exact HW3.out, HOj.out.trans HO3.out⟩
        case measure => simp [intOf]; omega
      | true =>
        go_wp2_with fail
        refine (HSj3.out).mono ?_
        rintro e w4 ⟨rfl, ho⟩
        have HO4 := Lib.hid (HO3.out.trans ho)
        have HW4 := Lib.hid (HW3.out.nix ho)
        clear ho
        by_cases hq : SN = NM
        · have HSk : Hid (gtL nm (l.take j ++ [s]) = gtL nm (l.take j) ++ [VV]) := Lib.hid (by rw [HSj.out, if_pos ⟨trivial, hq⟩])
          subst hq
          have HSz4 : Hid (w.heap.size ≤ w4.heap.size) := Lib.hid (Nat.le_trans HOj.out.size HO4.out.size)
          go_wp2_with (at_builtin; refine app_text rfl (.tmp 33) (.tmp 35) rfl w.heap.size u5 (gtL nm (l.take j)) rfl ?own1 w4.heap.size VV rfl ((Box.new w4 _ _).cell 0) ?len1 ?base1 ?rest1)
          case own1 => exact HW4.out.nix ((Only.refl Nix w4).alloc _)
          case len1 => have := HLj.out; omega
          case base1 => have := HSz4.out; simp; omega
          case rest1 =>
            intro v5 w5 h5 g5 m5
            have HW5 := Lib.hid h5
            have HO5 : Hid (Only Nix w w5) := Lib.hid (((HOj.out.trans HO4.out).alloc _).grown g5 (fun k hk => .inr (HW4.out.lt hk).1))
            clear h5 g5 m5
            go_wp2
            go_roundw
            case rel => exact ⟨j + 1, hlt, by go_num, by rw [HTk.out, HSk.out]; exact HW5.out, HO5.out⟩
            case measure => simp [intOf]; omega
        · have HSk : Hid (gtL nm (l.take j ++ [s]) = gtL nm (l.take j)) := Lib.hid (by rw [HSj.out, if_neg (fun h => hq h.2), List.append_nil])
          have hq2 : (SN.toList == NM.toList) = false := by
            rw [beq_eq_false_iff_ne, Lib.toList_data, Lib.toList_data]
            exact fun e => hq (by obtain ⟨⟨a⟩⟩ := SN; obtain ⟨⟨b⟩⟩ := NM; simpa using e)
          go_wp2
          go_roundw
          case rel => exact ⟨j + 1, hlt, by go_num, by rw [HTk.out, HSk.out]; exact HW4.out, HOj.out.trans HO4.out⟩
          case measure => simp [intOf]; omega
    · have hd : decide (j < l.length) = false := by simp; omega
      have HF : Hid (GtR w (gtL nm l) (.returned u5) wr) := Lib.hid ⟨⟨_, rfl, by have h := HW.out; rw [show j = l.length by omega, HTl.out] at h; exact h⟩, HOj.out⟩
      clear hown ho
      go_wp2
      go_ret
      exact HF.out
end Go.Proofs.YtphpciglpnbblaaDoor
