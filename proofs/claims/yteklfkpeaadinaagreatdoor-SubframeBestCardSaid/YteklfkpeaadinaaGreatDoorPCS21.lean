/-
  Best of samples that are all the same; the chapter's example.
-/
import Derived.Test.YteklfkpeaadinaaGreatDoorPCS20
import Derived.Test.YteklfkpeaadinaaGreatDoorPCS10
namespace Go.Proofs.YteklfkpeaadinaaGreatDoor.S
open Go.RowKit Go.Shelf

set_option maxRecDepth 100000 in
set_option maxHeartbeats 2000000 in
theorem best_same {w : World} (A : Option Addr) (n c D : Nat) (xs : List Int) (hx : ISrc w (.slice A n c) xs) (hck : ckBlk xs.length D = 0) (hf : fitsD D xs) (hs : sameA xs) (hT : Tab w) :
    Calls Tryz.prog 23 #[iv D, .slice A n c] w fun e w' => e = .returned (.tuple #[spV 0 0 (nou xs) 0 0 (.slice none 0 0) 0 0 (.slice none 0 0) (.slice none 0 0), iv 0]) ∧ Only Nix w w' := by
  have hl := hx.len
  obtain ⟨Wa, hWa⟩ : ∃ Wa, w.alloc (.cells zC 28) = Wa := ⟨_, rfl⟩
  have a0 := (Only.refl Nix w).alloc (.cells zC 28)
  have bq := Box.new w 28 zC
  rw [hWa] at a0 bq
  have hD : 4 ≤ D ∧ D ≤ 33 ∧ 1 ≤ xs.length := by
    unfold ckBlk at hck
    split at hck
    · cases hck
    · omega
  have HCk := Lib.hid (checkBlock_any Wa n D)
  have hck2 : ckBlk n D = 0 := by rw [hl]; exact hck
  rw [hck2] at HCk
  have HAr := Lib.hid (areSamples_any D (by omega) (by omega) A n c xs (hx.nix a0))
  rw [decide_eq_true hf] at HAr
  have HNo := Lib.hid (noughts_any A n c xs (hx.nix a0) (hT.nix a0))
  have HCo := Lib.hid (isConstant_any A n c xs (hx.nix a0) (by omega))
  rw [decide_eq_true hs] at HCo
  generalize nou xs = q at *
  have HA := Lib.hid a0
  have HBq := Lib.hid bq
  clear a0 bq hx hT hf hs hck hck2 hl
  go_enter Tryz.func23, Tryz.ntmps23
  go_wp2_with fail
  refine (HCk.out).mono ?_
  rintro e w1 ⟨rfl, rfl⟩
  go_wp2_with fail
  refine (HAr.out).mono ?_
  rintro e w1 ⟨rfl, rfl⟩
  go_wp2_with fail
  refine (HNo.out).mono ?_
  rintro e w1 ⟨rfl, rfl⟩
  go_wp2_with fail
  refine (HCo.out).mono ?_
  rintro e w1 ⟨rfl, rfl⟩
  go_wp2_with (refine wpList_store_row rfl 28 (.tmp 4) (.tmp 29) rfl rfl w.heap.size 28 zC (spC 0 0 q 0 0 (.slice none 0 0) 0 0 (.slice none 0 0) (.slice none 0 0)) rfl rfl HBq.out Tryz.size_plan rfl (spC_one _ _ _ _ _ _ _ _ _ _ _ _ _ _ _ _) ?st)
  case st =>
    intro w4 hb4 ho4
    have Z2 := Lib.hid (only_just HA.out ho4 (Nat.le_refl _))
    have y0 := hb4.cell 0
    have y1 := hb4.cell 1
    have y2 := hb4.cell 2
    have y3 := hb4.cell 3
    have y4 := hb4.cell 4
    have y5 := hb4.cell 5
    have y6 := hb4.cell 6
    have y7 := hb4.cell 7
    have y8 := hb4.cell 8
    have y9 := hb4.cell 9
    simp only [List.getElem?_toArray, List.getElem?_cons_zero, List.getElem?_cons_succ] at y0 y1 y2 y3 y4 y5 y6 y7 y8 y9
    clear hb4 ho4
    go_wp2
    refine bodyPost_ret (v := .tuple #[spV 0 0 q 0 0 (.slice none 0 0) 0 0 (.slice none 0 0) (.slice none 0 0), iv 0]) ?_ rfl ?_
    · simp [results, Tryz.f23, go_sem, y0, y1, y2, y3, y4, y5, y6, y7, y8, y9]
    exact ⟨rfl, Z2.out⟩
/-- the chapter's example -/
def exL : List Int := [4, 4, 4]
theorem ex_n : nou exL = 2 := by decide +kernel
theorem ex_s : splE 0 0 2 0 0 0 0 [] [] [] 8 exL = 0 := by decide +kernel
theorem ex_b : chB 0 0 2 0 0 0 0 [] [] [] 8 exL = [0, 0, 0, 0, 0, 0, 0, 1, 0, 1, 0, 0, 0, 0, 0, 1] := by decide +kernel
theorem ex_p : Packs [1, 65] [0, 0, 0, 0, 0, 0, 0, 1, 0, 1, 0, 0, 0, 0, 0, 1] := ⟨by decide, by decide, by decide, by decide⟩
theorem cell_lt' {w : World} {a : Addr} {v : Value} (h : w.cell? a = some v) : a.block < w.heap.size := by
  by_cases hlt : a.block < w.heap.size
  · exact hlt
  · exfalso
    unfold World.cell? at h
    rw [Array.getElem?_eq_none (by omega)] at h
    simp at h
theorem Laid.lt {w : World} (h : Laid w) : 0 < w.heap.size := cell_lt' (h.code 0 (by decide))
set_option maxRecDepth 100000 in
set_option maxHeartbeats 4000000 in
theorem awake7 {w : World} (hL : Laid w) (hT : Tab w) : Calls Tryz.prog 8 #[] w fun e w' => e = .returned (.bool true) ∧ Only Nix w w' := by
  have l1 := isrc_lit w exL (by decide) (by decide)
  simp only [exL, List.map_cons, List.map_nil, List.length_cons, List.length_nil, Nat.zero_add, Nat.reduceAdd] at l1
  have o1 := (Only.refl Nix w).alloc (.cells #[iv 4, iv 4, iv 4] 3)
  have HBe := Lib.hid (best_same (some ⟨w.heap.size, 0, none⟩) 3 3 8 exL l1 (by decide) (by decide) (by decide) (hT.nix o1))
  rw [ex_n] at HBe
  have HL := Lib.hid hL
  have HO1 := Lib.hid o1
  clear l1 o1 hL hT
  go_enter Tryz.func8, Tryz.ntmps8
  go_wp2_with fail
  refine (HBe.out).mono ?_
  rintro e w1 ⟨rfl, o1⟩
  go_wp2_with (refine wpList_store_row rfl 28 (.tmp 1) (.tmp 8) rfl rfl w1.heap.size 28 zC (spC 0 0 2 0 0 (.slice none 0 0) 0 0 (.slice none 0 0) (.slice none 0 0)) rfl rfl (Box.new w1 _ _) Tryz.size_plan rfl (spC_one _ _ _ _ _ _ _ _ _ _ _ _ _ _ _ _) ?st)
  case st =>
    intro w2 hb2 ho2
    have o12 : Only Nix w1 w2 := ((Only.refl Nix w1).alloc _).then ho2 (fun i e => .inr (by cases e; exact Nat.le_refl _))
    have HO2 := Lib.hid ((HO1.out.trans o1).trans o12)
    have HB2 := Lib.hid hb2
    have HNW := Lib.hid (newWriter_any w2)
    clear hb2 ho2 o12 o1 HBe
    go_wp2_with fail
    refine (HNW.out).mono ?_
    rintro e w3 ⟨rfl, hW3, ho3⟩
    have HB3b := HB2.out.lt
    have HB3 := Lib.hid (HB2.out.only ho3 (fun e => e))
    have l3 := isrc_lit w3 exL (by decide) (by decide)
    simp only [exL, List.map_cons, List.map_nil, List.length_cons, List.length_nil, Nat.zero_add, Nat.reduceAdd] at l3
    have o4 := (Only.refl Nix w3).alloc (.cells #[iv 4, iv 4, iv 4] 3)
    have HO4 := Lib.hid ((HO2.out.trans ho3).trans o4)
    have hs := HO4.out.size
    have hs2 := HO2.out.size
    have hb3 := hW3.box.lt
    have HWr := Lib.hid (write_any (hW3.nix o4) (fun u hu => (HL.out.nix HO4.out).only hu (fun e => by
        have := HL.out.lt
        rcases e with e | e
        · omega
        · simp [Value.ownBlock] at e)) 0 0 2 0 0 none 0 0 0 0 none none 0 0 0 0 [] [] [] 8 (some ⟨w3.heap.size, 0, none⟩) 3 3 exL
      (K.isrc_nil _) (K.isrc_nil _) (K.isrc_nil _) l3 (by decide)
      (fun ad n c e _ => by cases e) (fun ad n c e _ => by cases e) (fun ad n c e _ => by cases e) (by decide))
    rw [ex_s, ex_b] at HWr
    have p0 := HB3.out.cell 0
    have p1 := HB3.out.cell 1
    have p2 := HB3.out.cell 2
    have p3 := HB3.out.cell 3
    have p4 := HB3.out.cell 4
    have p5 := HB3.out.cell 5
    have p6 := HB3.out.cell 6
    have p7 := HB3.out.cell 7
    have p8 := HB3.out.cell 8
    have p9 := HB3.out.cell 9
    simp only [List.getElem?_toArray, List.getElem?_cons_zero, List.getElem?_cons_succ] at p0 p1 p2 p3 p4 p5 p6 p7 p8 p9
    clear l3 o4 hW3 HNW HB2
    go_wp2_with fail
    refine (HWr.out).mono ?_
    rintro e w5 hwr
    have he := hwr.ans
    subst he
    obtain ⟨v5, bs5, hW5, ho5, hm5⟩ := hwr.good rfl
    have hbs : bs5 = [1, 65] := hW5.packs.inj ex_p
    subst hbs
    have hW6 : Wr w5 w2.heap.size v5 [1, 65] [0, 0, 0, 0, 0, 0, 0, 1, 0, 1, 0, 0, 0, 0, 0, 1] := hW5
    have HLn := Lib.hid (len_any hW6)
    have HBy := Lib.hid (bytes_any hW6)
    have o5 : Only Nix w w5 := HO4.out.then ho5 (fun i e => by
      rcases e with e | e
      · exact .inr (by omega)
      · simp [Value.ownBlock] at e)
    have HO5 := Lib.hid o5
    have HB5 := Lib.hid (HB3.out.only (((Only.refl (Just w2.heap.size) w3).alloc _).then ho5 (fun i e => by
      rcases e with e | e
      · exact .inl e
      · simp [Value.ownBlock] at e) : Only (Just w2.heap.size) w3 w5) (F := Just w2.heap.size) (fun e => by
      have : w1.heap.size = w2.heap.size := e
      have := HB3b
      omega))
    have z0 := HB5.out.cell 0
    have z1 := HB5.out.cell 1
    have z2 := HB5.out.cell 2
    have z3 := HB5.out.cell 3
    have z4 := HB5.out.cell 4
    have z5 := HB5.out.cell 5
    have z6 := HB5.out.cell 6
    have z7 := HB5.out.cell 7
    have z8 := HB5.out.cell 8
    have z9 := HB5.out.cell 9
    simp only [List.getElem?_toArray, List.getElem?_cons_zero, List.getElem?_cons_succ] at z0 z1 z2 z3 z4 z5 z6 z7 z8 z9
    clear hW5 hW6 ho5 hm5 HWr hwr p0 p1 p2 p3 p4 p5 p6 p7 p8 p9
    go_wp2_with fail
    refine (HLn.out).mono ?_
    rintro e w6 ⟨rfl, rfl⟩
    go_wp2_with fail
    refine (HBy.out).mono ?_
    rintro e w6 ⟨v6, rfl, hown, ho6⟩
    have S6 := Src.of_owns hown (by simp)
    obtain ⟨A6, c6, hv6⟩ := S6.slice
    subst hv6
    have o7 := (Only.refl Nix w6).alloc (.cells #[.int .u8 1, .int .u8 65] 5)
    have S7 : Src (w6.alloc (.cells #[.int .u8 1, .int .u8 65] 5)) (.slice (some ⟨w6.heap.size, 0, none⟩) 2 2) [1, 65] :=
      Src.of_owns (World.ownsRow_lit (base := 0) (size := 1) w6 #[.int .u8 1, .int .u8 65] 2 (Nat.zero_le _) (by unfold maxLen; omega) rfl) (by simp)
    have HEq := Lib.hid (same_yes (S6.nix o7) S7)
    have HO7 := Lib.hid ((HO5.out.trans ho6).trans o7)
    clear S6 S7 o7 hown ho6 HBy HLn
    simp only [List.length_cons, List.length_nil, Nat.zero_add, Nat.reduceAdd] at HEq
    go_wp2_with fail
    refine (HEq.out).mono ?_
    rintro e w8 ⟨rfl, q, rfl⟩
    go_wp2
    go_ret
    exact ⟨rfl, HO7.out.drewN q⟩
end Go.Proofs.YteklfkpeaadinaaGreatDoor.S
