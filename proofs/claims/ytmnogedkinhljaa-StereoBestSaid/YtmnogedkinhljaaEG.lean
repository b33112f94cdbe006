/-
  Part; Join in one mode; the chapter's example.
-/
import Derived.Test.YtmnogedkinhljaaEF
namespace Go.Proofs.Ytmnogedkinhljaa
open Go.RowKit Go.Shelf

/-- what is written of two channels -/
def ptA (m : Int) (xs ys : List Int) : List Int := if wrE m xs ys = 0 then List.zipWith (twA m) xs ys else []
def ptB (m : Int) (xs ys : List Int) : List Int := if wrE m xs ys = 0 then List.zipWith (twB m) xs ys else []
theorem pt_tn {m : Int} (hm : isM m) (xs ys : List Int) : wrE m xs ys = ckE xs ys ∧ ptA m xs ys = tnL (twA m) xs ys ∧ ptB m xs ys = tnL (twB m) xs ys := by
  have e : wrE m xs ys = ckE xs ys := if_pos hm
  refine ⟨e, ?_, ?_⟩
  · unfold ptA tnL; rw [e]
  · unfold ptB tnL; rw [e]
theorem tw_bound (m l r : Int) (hl : isN l) (hr : isN r) : (-2199023255552 ≤ twA m l r ∧ twA m l r ≤ 2199023255552) ∧ (-2199023255552 ≤ twB m l r ∧ twB m l r ≤ 2199023255552) := by
  unfold isN at hl hr
  constructor
  · unfold twA; split <;> try split
    all_goals omega
  · unfold twB; split <;> try split
    all_goals omega
theorem tw_fit (m l r : Int) (hl : isN l) (hr : isN r) : (-9223372036854775808 ≤ twA m l r ∧ twA m l r ≤ 9223372036854775807) ∧ (-9223372036854775808 ≤ twB m l r ∧ twB m l r ≤ 9223372036854775807) := by
  have := tw_bound m l r hl hr
  omega

set_option maxHeartbeats 1000000 in
theorem part_of {w : World} {m : Int} {k : FuncId} {n c l d : Nat} {A B : Option Addr} {xs ys : List Int} (hm : isM m) (hv : turnV m = .func (.func k) #[] #[]) (hE : Enters Try.prog k) (hT : TurnC k (twA m) (twB m))
    (hx : ISrc w (.slice A n c) xs) (hy : ISrc w (.slice B l d) ys) (hn : n ≤ 1000) :
    Calls Try.prog 8 #[iv m, .slice A n c, .slice B l d] w fun e w' => TnR w (wrE m xs ys) (ptA m xs ys) (ptB m xs ys) e w' := by
  obtain ⟨e1, e2, e3⟩ := pt_tn hm xs ys
  rw [e1, e2, e3]
  have HP := Lib.hid (parting_any w m)
  rw [hv] at HP
  have HT := Lib.hid (turned_any hE hT hx hy hn (tw_fit m))
  clear hx hy hE hT e1 e2 e3 hv
  go_enter Try.func8, Try.ntmps8
  go_wp2_with fail
  refine (HP.out).mono ?_
  rintro e w1 ⟨rfl, rfl⟩
  go_wp2_with fail
  refine (HT.out).mono ?_
  rintro e w2 ⟨⟨A1, c1, B1, d1, rfl, i1, i2⟩, o2⟩
  have HF : Hid (TnR w (ckE xs ys) (tnL (twA m) xs ys) (tnL (twB m) xs ys) (.returned (.tuple #[.slice A1 (tnL (twA m) xs ys).length c1, .slice B1 (tnL (twB m) xs ys).length d1, iv (ckE xs ys)])) w2) := Lib.hid ⟨⟨_, _, _, _, rfl, i1, i2⟩, o2⟩
  clear i1 i2 o2 HT HP
  go_wp2
  refine bodyPost_ret (v := .tuple #[.slice A1 (tnL (twA m) xs ys).length c1, .slice B1 (tnL (twB m) xs ys).length d1, iv (ckE xs ys)]) ?_ rfl HF.out
  simp [results, Try.f8, go_sem]

set_option maxHeartbeats 1000000 in
theorem part_any {w : World} (m : Int) {n c l d : Nat} {A B : Option Addr} {xs ys : List Int} (hx : ISrc w (.slice A n c) xs) (hy : ISrc w (.slice B l d) ys) (hn : n ≤ 1000) :
    Calls Try.prog 8 #[iv m, .slice A n c, .slice B l d] w fun e w' => TnR w (wrE m xs ys) (ptA m xs ys) (ptB m xs ys) e w' := by
  by_cases hm : isM m
  · rcases hm with rfl | rfl | rfl | rfl
    · exact part_of (by decide) rfl (enters_of Try.func24 (by kernel_rfl) rfl) turn_1 hx hy hn
    · exact part_of (by decide) rfl (enters_of Try.func25 (by kernel_rfl) rfl) turn_8 hx hy hn
    · exact part_of (by decide) rfl (enters_of Try.func26 (by kernel_rfl) rfl) turn_9 hx hy hn
    · exact part_of (by decide) rfl (enters_of Try.func27 (by kernel_rfl) rfl) turn_10 hx hy hn
  · have e0 : wrE m xs ys = 13 := if_neg hm
    have e1 : ptA m xs ys = [] := if_neg (by rw [e0]; decide)
    have e2 : ptB m xs ys = [] := if_neg (by rw [e0]; decide)
    have e3 : turnV m = .nilFunc := by
      unfold turnV
      rw [if_neg (fun h => hm (.inl h)), if_neg (fun h => hm (.inr (.inl h))), if_neg (fun h => hm (.inr (.inr (.inl h)))), if_neg (fun h => hm (.inr (.inr (.inr h))))]
    rw [e0, e1, e2]
    have HP := Lib.hid (parting_any w m)
    rw [e3] at HP
    have HT := Lib.hid (turned_nil (w := w) (.slice A n c) (.slice B l d))
    clear hx hy e0 e1 e2 e3 hm
    go_enter Try.func8, Try.ntmps8
    go_wp2_with fail
    refine (HP.out).mono ?_
    rintro e w1 ⟨rfl, rfl⟩
    go_wp2_with fail
    refine (HT.out).mono ?_
    rintro e w2 ⟨⟨A1, c1, B1, d1, rfl, i1, i2⟩, o2⟩
    have HF : Hid (TnR w 13 [] [] (.returned (.tuple #[.slice A1 0 c1, .slice B1 0 d1, iv 13])) w2) := Lib.hid ⟨⟨_, _, _, _, rfl, i1, i2⟩, o2⟩
    clear i1 i2 o2 HT HP
    go_wp2
    refine bodyPost_ret (v := .tuple #[.slice A1 0 c1, .slice B1 0 d1, iv 13]) ?_ rfl HF.out
    simp [results, Try.f8, go_sem]

set_option maxHeartbeats 1000000 in
theorem join_any9 {w : World} {n c l d : Nat} {A B : Option Addr} {xs ys : List Int} (hx : ISrc w (.slice A n c) xs) (hy : ISrc w (.slice B l d) ys) (hn : n ≤ 1000) :
    Calls Try.prog 15 #[iv 9, .slice A n c, .slice B l d] w fun e w' => TnR w (ckE xs ys) (tnL (fun a b => a + b) xs ys) (tnL (fun _ b => b) xs ys) e w' := by
  have HP := Lib.hid (joining_9 w)
  have HT := Lib.hid (turned_any (enters_of Try.func31 (by kernel_rfl) rfl) join_9 hx hy hn (fun a b ha hb => by unfold isN at ha hb; omega))
  clear hx hy
  go_enter Try.func15, Try.ntmps15
  go_wp2_with fail
  refine (HP.out).mono ?_
  rintro e w1 ⟨rfl, rfl⟩
  go_wp2_with fail
  refine (HT.out).mono ?_
  rintro e w2 ⟨⟨A1, c1, B1, d1, rfl, i1, i2⟩, o2⟩
  have HF : Hid (TnR w (ckE xs ys) (tnL (fun a b => a + b) xs ys) (tnL (fun _ b => b) xs ys) (.returned (.tuple #[.slice A1 (tnL (fun a b => a + b) xs ys).length c1, .slice B1 (tnL (fun _ b => b) xs ys).length d1, iv (ckE xs ys)])) w2) := Lib.hid ⟨⟨_, _, _, _, rfl, i1, i2⟩, o2⟩
  clear i1 i2 o2 HT HP
  go_wp2
  refine bodyPost_ret (v := .tuple #[.slice A1 (tnL (fun a b => a + b) xs ys).length c1, .slice B1 (tnL (fun _ b => b) xs ys).length d1, iv (ckE xs ys)]) ?_ rfl HF.out
  simp [results, Try.f15, go_sem]

theorem ints_nix {w : World} {v1 v2 : Value} {xs : List Int} (h1 : ISrc w v1 xs) (h2 : ISrc w v2 xs) :
    Calls Try.prog 16 #[v1, v2] w fun e w' => e = .returned (.bool true) ∧ Only Nix w w' :=
  (ints_yes h1 h2).mono fun _ _ h => ⟨h.1, by obtain ⟨m, hm⟩ := h.2; rw [hm]; exact (Only.refl _ _).drewN m⟩
theorem one_lit (w : World) (x : Int) (hx : -9223372036854775808 ≤ x ∧ x ≤ 9223372036854775807) : ISrc (w.alloc (.cells #[iv x] 3)) (.slice (some ⟨w.heap.size, 0, none⟩) 1 1) [x] :=
  isrc_lit w [x] (by simp) (by simpa using hx)

set_option maxRecDepth 100000 in
set_option maxHeartbeats 4000000 in
theorem awake9 (w : World) : Calls Try.prog 7 #[] w fun e w' => e = .returned (.bool true) ∧ Only Nix w w' := by
  have s1 := (one_lit w 5 (by decide)).nix ((Only.refl Nix _).alloc (.cells #[iv 2] 3))
  have s2 := one_lit (w.alloc (.cells #[iv 5] 3)) 2 (by decide)
  have HP := Lib.hid (part_any 10 s1 s2 (by decide))
  have HA : Hid (Only Nix w ((w.alloc (.cells #[iv 5] 3)).alloc (.cells #[iv 2] 3))) := Lib.hid (((Only.refl Nix w).alloc _).alloc _)
  rw [show wrE 10 [5] [2] = 0 by decide, show ptA 10 [5] [2] = [3] by decide, show ptB 10 [5] [2] = [3] by decide] at HP
  rw [World.size_alloc] at HP
  clear s1 s2
  go_enter Try.func7, Try.ntmps7
  go_wp2_with fail
  refine (HP.out).mono ?_
  rintro e w1 ⟨⟨A1, c1, B1, d1, rfl, i1, i2⟩, o1⟩
  have O1 := Lib.hid (HA.out.trans o1)
  have I1 := Lib.hid i1
  have I2 := Lib.hid i2
  simp only [List.length_cons, List.length_nil, Nat.zero_add]
  have s1 := (one_lit w1 3 (by decide)).nix ((Only.refl Nix _).alloc (.cells #[iv 2] 3))
  have s2 := one_lit (w1.alloc (.cells #[iv 3] 3)) 2 (by decide)
  have HJ := Lib.hid (join_any9 s1 s2 (by decide))
  have HA1 : Hid (Only Nix w1 ((w1.alloc (.cells #[iv 3] 3)).alloc (.cells #[iv 2] 3))) := Lib.hid (((Only.refl Nix w1).alloc _).alloc _)
  rw [show ckE [3] [2] = 0 by decide, show tnL (fun a b => a + b) [3] [2] = [5] by decide, show tnL (fun _ b => b) [3] [2] = [2] by decide] at HJ
  rw [World.size_alloc] at HJ
  clear s1 s2 i1 i2 o1 HP HA
  go_wp2_with fail
  refine (HJ.out).mono ?_
  rintro e w2 ⟨⟨A2, c2, B2, d2, rfl, i3, i4⟩, o2⟩
  have O2 := Lib.hid (O1.out.trans (HA1.out.trans o2))
  have I1' := Lib.hid (I1.out.nix (HA1.out.trans o2))
  have I2' := Lib.hid (I2.out.nix (HA1.out.trans o2))
  have I3 := Lib.hid i3
  have I4 := Lib.hid i4
  simp only [List.length_cons, List.length_nil, Nat.zero_add]
  have a3 : Only Nix w2 (w2.alloc (.cells #[iv 3] 3)) := (Only.refl Nix w2).alloc _
  have HI1 : Hid (Calls Try.prog 16 #[.slice A1 1 c1, .slice (some ⟨w2.heap.size, 0, none⟩) 1 1] (w2.alloc (.cells #[iv 3] 3)) fun e w' => e = .returned (.bool true) ∧ Only Nix (w2.alloc (.cells #[iv 3] 3)) w') := Lib.hid (ints_nix (I1'.out.nix a3) (one_lit w2 3 (by decide)))
  have A3 := Lib.hid a3
  clear a3 i3 i4 o2 HJ HA1 I1 I2 O1
  go_wp2_with fail
  refine (HI1.out).mono ?_
  rintro e w3 ⟨rfl, o3⟩
  have O3 := Lib.hid (O2.out.trans (A3.out.trans o3))
  have X2 := Lib.hid (I2'.out.nix (A3.out.trans o3))
  have X3 := Lib.hid (I3.out.nix (A3.out.trans o3))
  have X4 := Lib.hid (I4.out.nix (A3.out.trans o3))
  have a4 : Only Nix w3 (w3.alloc (.cells #[iv 3] 3)) := (Only.refl Nix w3).alloc _
  have HI2 : Hid (Calls Try.prog 16 #[.slice B1 1 d1, .slice (some ⟨w3.heap.size, 0, none⟩) 1 1] (w3.alloc (.cells #[iv 3] 3)) fun e w' => e = .returned (.bool true) ∧ Only Nix (w3.alloc (.cells #[iv 3] 3)) w') := Lib.hid (ints_nix (X2.out.nix a4) (one_lit w3 3 (by decide)))
  have A4 := Lib.hid a4
  clear a4 o3 HI1 A3 I1' I2' I3 I4 O2
  go_wp2_with fail
  refine (HI2.out).mono ?_
  rintro e w4 ⟨rfl, o4⟩
  have O4 := Lib.hid (O3.out.trans (A4.out.trans o4))
  have Y3 := Lib.hid (X3.out.nix (A4.out.trans o4))
  have Y4 := Lib.hid (X4.out.nix (A4.out.trans o4))
  have a5 : Only Nix w4 (w4.alloc (.cells #[iv 5] 3)) := (Only.refl Nix w4).alloc _
  have HI3 : Hid (Calls Try.prog 16 #[.slice A2 1 c2, .slice (some ⟨w4.heap.size, 0, none⟩) 1 1] (w4.alloc (.cells #[iv 5] 3)) fun e w' => e = .returned (.bool true) ∧ Only Nix (w4.alloc (.cells #[iv 5] 3)) w') := Lib.hid (ints_nix (Y3.out.nix a5) (one_lit w4 5 (by decide)))
  have A5 := Lib.hid a5
  clear a5 o4 HI2 A4 X2 X3 X4 O3
  go_wp2_with fail
  refine (HI3.out).mono ?_
  rintro e w5 ⟨rfl, o5⟩
  have O5 := Lib.hid (O4.out.trans (A5.out.trans o5))
  have Z4 := Lib.hid (Y4.out.nix (A5.out.trans o5))
  have a6 : Only Nix w5 (w5.alloc (.cells #[iv 2] 3)) := (Only.refl Nix w5).alloc _
  have HI4 : Hid (Calls Try.prog 16 #[.slice B2 1 d2, .slice (some ⟨w5.heap.size, 0, none⟩) 1 1] (w5.alloc (.cells #[iv 2] 3)) fun e w' => e = .returned (.bool true) ∧ Only Nix (w5.alloc (.cells #[iv 2] 3)) w') := Lib.hid (ints_nix (Z4.out.nix a6) (one_lit w5 2 (by decide)))
  have A6 := Lib.hid a6
  clear a6 o5 HI3 A5 Y3 Y4 O4
  go_wp2_with fail
  refine (HI4.out).mono ?_
  rintro e w6 ⟨rfl, o6⟩
  have O6 := Lib.hid (O5.out.trans (A6.out.trans o6))
  clear o6 HI4 A6 Z4 O5
  go_wp2
  go_ret
  exact ⟨rfl, O6.out⟩
end Go.Proofs.Ytmnogedkinhljaa
