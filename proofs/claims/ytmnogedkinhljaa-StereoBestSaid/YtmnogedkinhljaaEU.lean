/-
  Best: the mode in which what is written is the least.
-/
import Derived.Test.YtmnogedkinhljaaEQ
namespace Go.Proofs.Ytmnogedkinhljaa
open Go.RowKit Go.Shelf

/-- the sum of what is written in a mode -/
def sV (xs ys : List Int) (m : Int) : Nat := mgN (twA m) (twB m) xs ys xs.length
def mdv : Nat → Int
  | 0 => 1
  | 1 => 8
  | 2 => 9
  | _ => 10
/-- the best of so many modes, and its sum -/
def bst (xs ys : List Int) : Nat → Int × Nat
  | 0 => (0, 0)
  | k + 1 => if k = 0 ∨ sV xs ys (mdv k) < (bst xs ys k).2 then (mdv k, sV xs ys (mdv k)) else bst xs ys k
theorem mdv_ne (k : Nat) : mdv k ≠ 0 := by unfold mdv; split <;> decide
theorem bst_ne (xs ys : List Int) (k : Nat) (h : 0 < k) : (bst xs ys k).1 ≠ 0 := by
  induction k with
  | zero => omega
  | succ k ih =>
    simp only [bst]
    split
    · exact mdv_ne k
    · rename_i hh
      exact ih (by omega)
theorem bst_take {xs ys : List Int} {k : Nat} (h : k = 0 ∨ sV xs ys (mdv k) < (bst xs ys k).2) : bst xs ys (k + 1) = (mdv k, sV xs ys (mdv k)) := if_pos h
theorem bst_keep {xs ys : List Int} {k : Nat} (h : ¬ (k = 0 ∨ sV xs ys (mdv k) < (bst xs ys k).2)) : bst xs ys (k + 1) = bst xs ys k := if_neg h
theorem ckE_ok {xs ys : List Int} (h : ckE xs ys = 0) : xs.length = ys.length ∧ (∀ x ∈ xs, isN x) ∧ (∀ y ∈ ys, isN y) := (wrE_ok ((show wrE 1 xs ys = ckE xs ys from if_pos (by decide)).trans h)).2
structure BeL (w : World) (z : Nat) (xs ys : List Int) (s7 s21 : Value) (wr : World) : Prop where
  ex : ∃ k : Nat, k ≤ 4 ∧ s21 = iv k ∧ s7 = iv (bst xs ys k).1 ∧ Box wr z 47 #[.int .u64 0, .int .u64 ((bst xs ys k).2 : Int)]
  only : Only Nix w wr
  big : z < wr.heap.size
theorem sum_of {w : World} {m : Int} {k : FuncId} {n c l d : Nat} {A B : Option Addr} {xs ys : List Int} (hE : Enters Try.prog k) (hT : TurnC k (twA m) (twB m))
    (hx : ISrc w (.slice A n c) xs) (hy : ISrc w (.slice B l d) ys) (hn : n ≤ 1000) (h0 : ckE xs ys = 0) :
    Calls Try.prog 21 #[.func (.func k) #[] #[], .slice A n c, .slice B l d] w fun e w' => e = .returned (mgV (sV xs ys m)) ∧ Only Nix w w' := by
  obtain ⟨hl, h1, h2⟩ := ckE_ok h0
  have := sumOf_any hE hT hx hy hn (by rw [hx.len, hy.len]; exact hl) h1 h2 (fun l r hl hr => tw_bound m l r hl hr)
  rw [hx.len] at this ⊢
  exact this
set_option maxRecDepth 100000 in
set_option maxHeartbeats 4000000 in
theorem best_any {w : World} {n c m d : Nat} {A B : Option Addr} {xs ys : List Int} (hx : ISrc w (.slice A n c) xs) (hy : ISrc w (.slice B m d) ys) (hn : n ≤ 1000) :
    Calls Try.prog 13 #[.slice A n c, .slice B m d] w fun e w' => e = two (if ckE xs ys = 0 then (bst xs ys 4).1 else 0) (ckE xs ys) ∧ Only Nix w w' := by
  have a1 := (Only.refl Nix w).alloc (.cells #[.slice A n c, .slice B m d] 22)
  have b1 := Box.new w 22 #[.slice A n c, .slice B m d]
  have HCk := Lib.hid (check_any b1 (hx.nix a1) (hy.nix a1))
  obtain ⟨W1, hW1⟩ : ∃ W1, w.alloc (.cells #[.slice A n c, .slice B m d] 22) = W1 := ⟨_, rfl⟩
  rw [hW1] at a1 HCk
  have HA := Lib.hid a1
  have HX := Lib.hid hx
  have HY := Lib.hid hy
  clear b1 a1 hx hy
  by_cases h0 : ckE xs ys = 0
  · rw [if_pos h0, h0]
    rw [h0] at HCk
    have H0 := Lib.hid h0
    have b2 := Box.new W1 47 #[.int .u64 0, .int .u64 0]
    have a2 := (Only.refl Nix W1).alloc (.cells #[.int .u64 0, .int .u64 0] 47)
    have B2 := Lib.hid b2
    have A2 := Lib.hid (HA.out.trans a2)
    obtain ⟨z, hz⟩ : ∃ z, W1.heap.size = z := ⟨_, rfl⟩
    have hzw : w.heap.size ≤ z := by rw [← hz]; exact HA.out.size
    rw [hz] at B2
    clear h0 b2 a2
    go_enter Try.func13, Try.ntmps13
    go_wp2_with fail
    refine (HCk.out).mono ?_
    rintro e w2 ⟨rfl, rfl⟩
    go_wp2
    try simp only [hz]
    go_loopw [7, 21] (fun s7 s21 wr => BeL w z xs ys s7 s21 wr) (fun _ s21 _ => 4 - (intOf s21).toNat)
    case atStart => exact ⟨⟨0, by omega, rfl, rfl, B2.out⟩, A2.out, by rw [World.size_alloc]; omega⟩
    case round =>
      obtain ⟨⟨k, hk, rfl, rfl, hbx⟩, hO, hbig⟩ := hrel
      have HBx := Lib.hid hbx
      have HO := Lib.hid hO
      clear hbx hO B2 A2 HCk HA hW1 hz
      rcases (show k = 0 ∨ k = 1 ∨ k = 2 ∨ k = 3 ∨ k = 4 by omega) with rfl | rfl | rfl | rfl | rfl
      · have hix : ∀ u, (Instr.index 48 (.agg #[.int .i64 1, .int .i64 8, .int .i64 9, .int .i64 10]) (.int .i64 0)).run Try.prog u = .ok (iv 1) u := fun _ => by kernel_rfl
        have HPt := Lib.hid (parting_any wr 1)
        rw [show turnV 1 = .func (.func 24) #[] #[] from rfl] at HPt
        have HSm := Lib.hid (sum_of (m := 1) (enters_of Try.func24 (by kernel_rfl) rfl) turn_1 (HX.out.nix HO.out) (HY.out.nix HO.out) hn H0.out)
        have HT : Hid (0 = 0 ∨ sV xs ys 1 < (bst xs ys 0).2 → bst xs ys 1 = (1, sV xs ys 1)) := Lib.hid (fun h => bst_take (k := 0) h)
        have HK : Hid (¬ (0 = 0 ∨ sV xs ys 1 < (bst xs ys 0).2) → bst xs ys 1 = bst xs ys 0) := Lib.hid (fun h => bst_keep (k := 0) h)
        obtain ⟨S, hS⟩ : ∃ S, sV xs ys 1 = S := ⟨_, rfl⟩
        rw [hS] at HSm HT HK
        go_wp2_with fail
        refine (HPt.out).mono ?_
        rintro e w3 ⟨rfl, rfl⟩
        go_wp2_with fail
        refine (HSm.out).mono ?_
        rintro e w4 ⟨rfl, o4⟩
        have XB := Lib.hid (HBx.out.only o4 (fun e => e))
        have XO := Lib.hid (HO.out.trans o4)
        have hlt4 : z < w4.heap.size := Nat.lt_of_lt_of_le hbig o4.size
        clear o4 HPt HSm HBx HO hS
        have HE := Lib.hid (HT.out (by simp))
        have c0 := XB.out.cell 0
        have c1 := XB.out.cell 1
        have f0 := XB.out.frozen 0
        have f1 := XB.out.frozen 1
        simp only [List.getElem?_toArray, List.getElem?_cons_zero, List.getElem?_cons_succ] at c0 c1
        have XB5 := Lib.hid (((XB.out.put 0 (.int .u64 0)).put 1 (.int .u64 (S : Int))).alloc (.cells #[.int .u64 0, .int .u64 (S : Int)] 47)).drew
        have XO5 := Lib.hid ((((XO.out.setCell (p := ⟨z, 0, none⟩) (.inr hzw) (.int .u64 0)).setCell (p := ⟨z, 1, none⟩) (.inr hzw) (.int .u64 (S : Int))).alloc (.cells #[.int .u64 0, .int .u64 (S : Int)] 47)).drew)
        clear HT HK
        go_wp2
        go_region
        go_wp2
        go_roundw
        case rel => exact ⟨⟨1, by omega, by go_num, by rw [HE.out], by rw [HE.out]; exact XB5.out⟩, XO5.out, by simp; omega⟩
        case measure => simp [intOf]
      · have hix : ∀ u, (Instr.index 48 (.agg #[.int .i64 1, .int .i64 8, .int .i64 9, .int .i64 10]) (.int .i64 1)).run Try.prog u = .ok (iv 8) u := fun _ => by kernel_rfl
        have HPt := Lib.hid (parting_any wr 8)
        rw [show turnV 8 = .func (.func 25) #[] #[] from rfl] at HPt
        have HSm := Lib.hid (sum_of (m := 8) (enters_of Try.func25 (by kernel_rfl) rfl) turn_8 (HX.out.nix HO.out) (HY.out.nix HO.out) hn H0.out)
        have HT : Hid (1 = 0 ∨ sV xs ys 8 < (bst xs ys 1).2 → bst xs ys 2 = (8, sV xs ys 8)) := Lib.hid (fun h => bst_take (k := 1) h)
        have HK : Hid (¬ (1 = 0 ∨ sV xs ys 8 < (bst xs ys 1).2) → bst xs ys 2 = bst xs ys 1) := Lib.hid (fun h => bst_keep (k := 1) h)
        have hb0 : ¬ (bst xs ys 1).1 = 0 := bst_ne xs ys 1 (by decide)
        obtain ⟨S, hS⟩ : ∃ S, sV xs ys 8 = S := ⟨_, rfl⟩
        rw [hS] at HSm HT HK
        go_wp2_with fail
        refine (HPt.out).mono ?_
        rintro e w3 ⟨rfl, rfl⟩
        go_wp2_with fail
        refine (HSm.out).mono ?_
        rintro e w4 ⟨rfl, o4⟩
        have XB := Lib.hid (HBx.out.only o4 (fun e => e))
        have XO := Lib.hid (HO.out.trans o4)
        have hlt4 : z < w4.heap.size := Nat.lt_of_lt_of_le hbig o4.size
        clear o4 HPt HSm HBx HO hS
        obtain ⟨b, hb⟩ : ∃ b, (bst xs ys 1).1 = b := ⟨_, rfl⟩
        obtain ⟨T, hT⟩ : ∃ T, (bst xs ys 1).2 = T := ⟨_, rfl⟩
        rw [hb] at hb0 ⊢
        rw [hT] at XB HT HK
        have Hb := Lib.hid hb
        have HTe := Lib.hid hT
        clear hb hT
        have c0 := XB.out.cell 0
        have c1 := XB.out.cell 1
        simp only [List.getElem?_toArray, List.getElem?_cons_zero, List.getElem?_cons_succ] at c0 c1
        have XB5 := Lib.hid (XB.out.alloc (.cells #[.int .u64 0, .int .u64 (S : Int)] 47))
        have XO5 := Lib.hid (XO.out.alloc (.cells #[.int .u64 0, .int .u64 (S : Int)] 47))
        have XT5 := Lib.hid (Box.new w4 47 #[.int .u64 0, .int .u64 (S : Int)])
        have HL := Lib.hid (less_any (w4.alloc (.cells #[.int .u64 0, .int .u64 (S : Int)] 47)) S T)
        by_cases hlt : S < T
        · rw [decide_eq_true hlt] at HL
          have HE := Lib.hid (HT.out (.inr hlt))
          clear HT HK hlt
          go_wp2_with fail
          refine (HL.out).mono ?_
          rintro e w6 ⟨rfl, o6⟩
          have XB6 := Lib.hid (XB5.out.only o6 (fun e => e))
          have XT6 := Lib.hid (XT5.out.only o6 (fun e => e))
          have XO6 := Lib.hid (XO5.out.trans o6)
          have hbig6 : z < w6.heap.size := XB6.out.lt
          clear o6 c0 c1 XB5 XT5 XO5 HL XB XO
          have c0 := XB6.out.cell 0
          have c1 := XB6.out.cell 1
          have f0 := XB6.out.frozen 0
          have f1 := XB6.out.frozen 1
          have d0 := XT6.out.cell 0
          have d1 := XT6.out.cell 1
          simp only [List.getElem?_toArray, List.getElem?_cons_zero, List.getElem?_cons_succ] at c0 c1 d0 d1
          have XB7 := Lib.hid ((XB6.out.put 0 (.int .u64 0)).put 1 (.int .u64 (S : Int))).drew
          have XO7 := Lib.hid ((XO6.out.setCell (p := ⟨z, 0, none⟩) (.inr hzw) (.int .u64 0)).setCell (p := ⟨z, 1, none⟩) (.inr hzw) (.int .u64 (S : Int))).drew
          go_wp2
          go_region
          go_wp2
          go_roundw
          case rel => exact ⟨⟨2, by omega, by go_num, by rw [HE.out], by rw [HE.out]; exact XB7.out⟩, XO7.out, by simp; omega⟩
          case measure => simp [intOf]
        · rw [decide_eq_false hlt] at HL
          have HE := Lib.hid (HK.out (fun h => by rcases h with h | h <;> omega))
          clear HT HK hlt
          go_wp2_with fail
          refine (HL.out).mono ?_
          rintro e w6 ⟨rfl, o6⟩
          have XB6 := Lib.hid (XB5.out.only o6 (fun e => e))
          have XO6 := Lib.hid (XO5.out.trans o6)
          have hbig6 : z < w6.heap.size := XB6.out.lt
          clear o6 c0 c1 XB5 XT5 XO5 HL XB XO
          go_wp2
          go_roundw
          case rel => exact ⟨⟨2, by omega, by go_num, by rw [HE.out, Hb.out], by rw [HE.out, HTe.out]; exact XB6.out⟩, XO6.out, hbig6⟩
          case measure => simp [intOf]
      · have hix : ∀ u, (Instr.index 48 (.agg #[.int .i64 1, .int .i64 8, .int .i64 9, .int .i64 10]) (.int .i64 2)).run Try.prog u = .ok (iv 9) u := fun _ => by kernel_rfl
        have HPt := Lib.hid (parting_any wr 9)
        rw [show turnV 9 = .func (.func 26) #[] #[] from rfl] at HPt
        have HSm := Lib.hid (sum_of (m := 9) (enters_of Try.func26 (by kernel_rfl) rfl) turn_9 (HX.out.nix HO.out) (HY.out.nix HO.out) hn H0.out)
        have HT : Hid (2 = 0 ∨ sV xs ys 9 < (bst xs ys 2).2 → bst xs ys 3 = (9, sV xs ys 9)) := Lib.hid (fun h => bst_take (k := 2) h)
        have HK : Hid (¬ (2 = 0 ∨ sV xs ys 9 < (bst xs ys 2).2) → bst xs ys 3 = bst xs ys 2) := Lib.hid (fun h => bst_keep (k := 2) h)
        have hb0 : ¬ (bst xs ys 2).1 = 0 := bst_ne xs ys 2 (by decide)
        obtain ⟨S, hS⟩ : ∃ S, sV xs ys 9 = S := ⟨_, rfl⟩
        rw [hS] at HSm HT HK
        go_wp2_with fail
        refine (HPt.out).mono ?_
        rintro e w3 ⟨rfl, rfl⟩
        go_wp2_with fail
        refine (HSm.out).mono ?_
        rintro e w4 ⟨rfl, o4⟩
        have XB := Lib.hid (HBx.out.only o4 (fun e => e))
        have XO := Lib.hid (HO.out.trans o4)
        have hlt4 : z < w4.heap.size := Nat.lt_of_lt_of_le hbig o4.size
        clear o4 HPt HSm HBx HO hS
        obtain ⟨b, hb⟩ : ∃ b, (bst xs ys 2).1 = b := ⟨_, rfl⟩
        obtain ⟨T, hT⟩ : ∃ T, (bst xs ys 2).2 = T := ⟨_, rfl⟩
        rw [hb] at hb0 ⊢
        rw [hT] at XB HT HK
        have Hb := Lib.hid hb
        have HTe := Lib.hid hT
        clear hb hT
        have c0 := XB.out.cell 0
        have c1 := XB.out.cell 1
        simp only [List.getElem?_toArray, List.getElem?_cons_zero, List.getElem?_cons_succ] at c0 c1
        have XB5 := Lib.hid (XB.out.alloc (.cells #[.int .u64 0, .int .u64 (S : Int)] 47))
        have XO5 := Lib.hid (XO.out.alloc (.cells #[.int .u64 0, .int .u64 (S : Int)] 47))
        have XT5 := Lib.hid (Box.new w4 47 #[.int .u64 0, .int .u64 (S : Int)])
        have HL := Lib.hid (less_any (w4.alloc (.cells #[.int .u64 0, .int .u64 (S : Int)] 47)) S T)
        by_cases hlt : S < T
        · rw [decide_eq_true hlt] at HL
          have HE := Lib.hid (HT.out (.inr hlt))
          clear HT HK hlt
          go_wp2_with fail
          refine (HL.out).mono ?_
          rintro e w6 ⟨rfl, o6⟩
          have XB6 := Lib.hid (XB5.out.only o6 (fun e => e))
          have XT6 := Lib.hid (XT5.out.only o6 (fun e => e))
          have XO6 := Lib.hid (XO5.out.trans o6)
          have hbig6 : z < w6.heap.size := XB6.out.lt
          clear o6 c0 c1 XB5 XT5 XO5 HL XB XO
          have c0 := XB6.out.cell 0
          have c1 := XB6.out.cell 1
          have f0 := XB6.out.frozen 0
          have f1 := XB6.out.frozen 1
          have d0 := XT6.out.cell 0
          have d1 := XT6.out.cell 1
          simp only [List.getElem?_toArray, List.getElem?_cons_zero, List.getElem?_cons_succ] at c0 c1 d0 d1
          have XB7 := Lib.hid ((XB6.out.put 0 (.int .u64 0)).put 1 (.int .u64 (S : Int))).drew
          have XO7 := Lib.hid ((XO6.out.setCell (p := ⟨z, 0, none⟩) (.inr hzw) (.int .u64 0)).setCell (p := ⟨z, 1, none⟩) (.inr hzw) (.int .u64 (S : Int))).drew
          go_wp2
          go_region
          go_wp2
          go_roundw
          case rel => exact ⟨⟨3, by omega, by go_num, by rw [HE.out], by rw [HE.out]; exact XB7.out⟩, XO7.out, by simp; omega⟩
          case measure => simp [intOf]
        · rw [decide_eq_false hlt] at HL
          have HE := Lib.hid (HK.out (fun h => by rcases h with h | h <;> omega))
          clear HT HK hlt
          go_wp2_with fail
          refine (HL.out).mono ?_
          rintro e w6 ⟨rfl, o6⟩
          have XB6 := Lib.hid (XB5.out.only o6 (fun e => e))
          have XO6 := Lib.hid (XO5.out.trans o6)
          have hbig6 : z < w6.heap.size := XB6.out.lt
          clear o6 c0 c1 XB5 XT5 XO5 HL XB XO
          go_wp2
          go_roundw
          case rel => exact ⟨⟨3, by omega, by go_num, by rw [HE.out, Hb.out], by rw [HE.out, HTe.out]; exact XB6.out⟩, XO6.out, hbig6⟩
          case measure => simp [intOf]
      · have hix : ∀ u, (Instr.index 48 (.agg #[.int .i64 1, .int .i64 8, .int .i64 9, .int .i64 10]) (.int .i64 3)).run Try.prog u = .ok (iv 10) u := fun _ => by kernel_rfl
        have HPt := Lib.hid (parting_any wr 10)
        rw [show turnV 10 = .func (.func 27) #[] #[] from rfl] at HPt
        have HSm := Lib.hid (sum_of (m := 10) (enters_of Try.func27 (by kernel_rfl) rfl) turn_10 (HX.out.nix HO.out) (HY.out.nix HO.out) hn H0.out)
        have HT : Hid (3 = 0 ∨ sV xs ys 10 < (bst xs ys 3).2 → bst xs ys 4 = (10, sV xs ys 10)) := Lib.hid (fun h => bst_take (k := 3) h)
        have HK : Hid (¬ (3 = 0 ∨ sV xs ys 10 < (bst xs ys 3).2) → bst xs ys 4 = bst xs ys 3) := Lib.hid (fun h => bst_keep (k := 3) h)
        have hb0 : ¬ (bst xs ys 3).1 = 0 := bst_ne xs ys 3 (by decide)
        obtain ⟨S, hS⟩ : ∃ S, sV xs ys 10 = S := ⟨_, rfl⟩
        rw [hS] at HSm HT HK
        go_wp2_with fail
        refine (HPt.out).mono ?_
        rintro e w3 ⟨rfl, rfl⟩
        go_wp2_with fail
        refine (HSm.out).mono ?_
        rintro e w4 ⟨rfl, o4⟩
        have XB := Lib.hid (HBx.out.only o4 (fun e => e))
        have XO := Lib.hid (HO.out.trans o4)
        have hlt4 : z < w4.heap.size := Nat.lt_of_lt_of_le hbig o4.size
        clear o4 HPt HSm HBx HO hS
        obtain ⟨b, hb⟩ : ∃ b, (bst xs ys 3).1 = b := ⟨_, rfl⟩
        obtain ⟨T, hT⟩ : ∃ T, (bst xs ys 3).2 = T := ⟨_, rfl⟩
        rw [hb] at hb0 ⊢
        rw [hT] at XB HT HK
        have Hb := Lib.hid hb
        have HTe := Lib.hid hT
        clear hb hT
        have c0 := XB.out.cell 0
        have c1 := XB.out.cell 1
        simp only [List.getElem?_toArray, List.getElem?_cons_zero, List.getElem?_cons_succ] at c0 c1
        have XB5 := Lib.hid (XB.out.alloc (.cells #[.int .u64 0, .int .u64 (S : Int)] 47))
        have XO5 := Lib.hid (XO.out.alloc (.cells #[.int .u64 0, .int .u64 (S : Int)] 47))
        have XT5 := Lib.hid (Box.new w4 47 #[.int .u64 0, .int .u64 (S : Int)])
        have HL := Lib.hid (less_any (w4.alloc (.cells #[.int .u64 0, .int .u64 (S : Int)] 47)) S T)
        by_cases hlt : S < T
        · rw [decide_eq_true hlt] at HL
          have HE := Lib.hid (HT.out (.inr hlt))
          clear HT HK hlt
          go_wp2_with fail
          refine (HL.out).mono ?_
          rintro e w6 ⟨rfl, o6⟩
          have XB6 := Lib.hid (XB5.out.only o6 (fun e => e))
          have XT6 := Lib.hid (XT5.out.only o6 (fun e => e))
          have XO6 := Lib.hid (XO5.out.trans o6)
          have hbig6 : z < w6.heap.size := XB6.out.lt
          clear o6 c0 c1 XB5 XT5 XO5 HL XB XO
          have c0 := XB6.out.cell 0
          have c1 := XB6.out.cell 1
          have f0 := XB6.out.frozen 0
          have f1 := XB6.out.frozen 1
          have d0 := XT6.out.cell 0
          have d1 := XT6.out.cell 1
          simp only [List.getElem?_toArray, List.getElem?_cons_zero, List.getElem?_cons_succ] at c0 c1 d0 d1
          have XB7 := Lib.hid ((XB6.out.put 0 (.int .u64 0)).put 1 (.int .u64 (S : Int))).drew
          have XO7 := Lib.hid ((XO6.out.setCell (p := ⟨z, 0, none⟩) (.inr hzw) (.int .u64 0)).setCell (p := ⟨z, 1, none⟩) (.inr hzw) (.int .u64 (S : Int))).drew
          go_wp2
          go_region
          go_wp2
          go_roundw
          case rel => exact ⟨⟨4, by omega, by go_num, by rw [HE.out], by rw [HE.out]; exact XB7.out⟩, XO7.out, by simp; omega⟩
          case measure => simp [intOf]
        · rw [decide_eq_false hlt] at HL
          have HE := Lib.hid (HK.out (fun h => by rcases h with h | h <;> omega))
          clear HT HK hlt
          go_wp2_with fail
          refine (HL.out).mono ?_
          rintro e w6 ⟨rfl, o6⟩
          have XB6 := Lib.hid (XB5.out.only o6 (fun e => e))
          have XO6 := Lib.hid (XO5.out.trans o6)
          have hbig6 : z < w6.heap.size := XB6.out.lt
          clear o6 c0 c1 XB5 XT5 XO5 HL XB XO
          go_wp2
          go_roundw
          case rel => exact ⟨⟨4, by omega, by go_num, by rw [HE.out, Hb.out], by rw [HE.out, HTe.out]; exact XB6.out⟩, XO6.out, hbig6⟩
          case measure => simp [intOf]
      · go_wp2
        go_ret2
        exact ⟨rfl, HO.out⟩
  · rw [if_neg h0]
    have hni : ¬ ckE xs ys = 0 := h0
    obtain ⟨E, hE⟩ : ∃ E, ckE xs ys = E := ⟨_, rfl⟩
    rw [hE] at HCk hni ⊢
    clear h0 hE
    go_enter Try.func13, Try.ntmps13
    go_wp2_with fail
    refine (HCk.out).mono ?_
    rintro e w2 ⟨rfl, rfl⟩
    go_wp2
    go_ret2
    exact ⟨rfl, HA.out⟩
end Go.Proofs.Ytmnogedkinhljaa
