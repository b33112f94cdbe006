/-
  InfoWrites: its walk.
-/
import Derived.Test.YtllpeknjnhdbmaaIBW
import Derived.Test.YtllpeknjnhdbmaaIY
namespace Go.Proofs.Ytllpeknjnhdbmaa
open Go.RowKit Go.Shelf

theorem wp_load_ref {w : World} {o : Oper} {a : Act} {K : Act → World → Prop} {Q : Exit → Act → World → Prop} (x : Operand) (ho : o.op = .load 33 x)
    (b : Nat) (i : Nf) (hx : a.eval x = .pointer (some ⟨b, 0, none⟩)) (hB : Box w b 33 (nfc i)) (hi : SumOk i.s) (h : K (a.put o.dst (.agg (nfc i))) w) : Oper.wp Try.prog o a w K Q :=
  wp_load_row _ x ho b hx _ _ (0, 0) _ hB Try.underlying33 rfl (by rw [nfc_size hi]; exact Try.size_ref) h
set_option maxRecDepth 100000 in
set_option maxHeartbeats 8000000 in
theorem infoWrites_any {w : World} (i : Nf) (hi : SumOk i.s) : Calls Try.prog 3 #[.agg (nfc i)] w fun e w' => e = .returned (.bool true) ∧ Only Nix w w' := by
  have a1 := (Only.refl Nix w).alloc (.cells (nfc i) 26)
  have b1 := Box.new w 26 (nfc i)
  obtain ⟨W1, hW1⟩ : ∃ W1, w.alloc (.cells (nfc i) 26) = W1 := ⟨_, rfl⟩
  rw [hW1] at a1 b1
  have HO := Lib.hid a1
  have HB := Lib.hid b1
  have HI := Lib.hid hi
  have HWr := Lib.hid (write_any (w := W1) i hi)
  have HAw : Hid (∀ u, Calls Try.prog 13 #[] u fun e w' => e = .returned (.bool true) ∧ Only Nix u w') := Lib.hid awake_any
  have HPl : Hid (∀ u, Calls Try.prog 10 #[.agg (nfc i)] u fun e w' => e = .returned (.agg (nfc i)) ∧ Only Nix u w') := Lib.hid (fun u => plain_any i hi)
  have HCk : Hid (∀ u, Calls Try.prog 12 #[.agg (nfc i)] u fun e w' => e = .returned (iv (ckI i)) ∧ Only Nix u w') := Lib.hid (fun u => check_any i)
  have HMy : Hid (∀ u, Calls Try.prog 11 #[.agg (nfc i)] u fun e w' => e = .returned (.bool (decide (mayI i))) ∧ Only Nix u w') := Lib.hid (fun u => may_any i)
  clear a1 b1
  by_cases hm : mayI i
  · have hck : ckI i = 0 := if_pos hm
    have hwl := wr_len hi
    have HW2 : Hid (∀ e w', WrR W1 i e w' → ∃ A5 c5, e = .returned (.tuple #[.slice A5 34 c5, iv 0]) ∧ Src w' (.slice A5 34 c5) (wrB i) ∧ Only Nix W1 w') := Lib.hid (fun e w' h => by
      obtain ⟨⟨v5, rfl, hown⟩, ho⟩ := h
      rw [if_pos hm] at hown
      obtain ⟨A5, c5, rfl⟩ := hown.slice
      have hsr := hown.bytes (by omega) (wr_lt hi)
      rw [hwl] at hsr ⊢
      rw [hck]
      exact ⟨A5, c5, rfl, hsr, ho⟩)
    have HBy : Hid (∀ u, Calls Try.prog 15 #[.agg (nfc i)] u fun e w' => ∃ v, e = .returned v ∧ Src w' v (wrB i) ∧ Only Nix u w') := Lib.hid (fun u => (bytesRef_any i hi hm).mono fun e w' h => by
      obtain ⟨⟨v, he, hown⟩, ho⟩ := h
      exact ⟨v, he, hown.bytes (by omega) (wr_lt hi), ho⟩)
    have HKn : Hid (∀ u, Calls Try.prog 16 #[.agg (nfc i)] u fun e w' => e = .returned (.bool (!decide (i.s = zS))) ∧ Only Nix u w') := Lib.hid (fun u => known_any i hi)
    have HN := run_neq_sum i.s zS hi.1 (by decide)
    have HG := guard_sum
    rw [hck] at HCk
    rw [decide_eq_true hm] at HMy
    obtain ⟨KB, hB⟩ : ∃ B, (!decide (i.s = zS)) = B := ⟨_, rfl⟩
    rw [hB] at HN HKn
    obtain ⟨S, hS⟩ : ∃ S, (i.s.map byt).toArray = S := ⟨_, rfl⟩
    obtain ⟨Z, hZ⟩ : ∃ Z, (zS.map byt).toArray = Z := ⟨_, rfl⟩
    have HZ := Lib.hid (built_sum0.trans (congrArg some hZ))
    rw [hS, hZ] at HN
    have HSs := Lib.hid hS
    have HNN := Lib.hid HN
    have HGG := Lib.hid HG
    clear hB hS hZ HN HG hi hck hwl hm
    generalize wrB i = B at *
    obtain ⟨C, hC⟩ : ∃ C, nfc i = C := ⟨_, rfl⟩
    have HC := Lib.hid hC
    clear hC
    go_enter Try.func3, Try.ntmps3
    go_wp2_with (first
      | (refine wpList_load_info rfl (.tmp 1) rfl w.heap.size i rfl HB.out HI.out ?_)
      | fail)
    refine (HWr.out).mono ?_
    intro e w2 hw2
    obtain ⟨A5, c5, rfl, s5, o2⟩ := HW2.out e w2 hw2
    have HS5 := Lib.hid s5
    have HO2 := Lib.hid (HO.out.trans o2)
    have HB2 := Lib.hid (HB.out.only o2 (fun e => e))
    clear hw2 s5 o2
    go_wp2_with (first
      | (refine wpList_load_info rfl (.tmp 1) rfl w.heap.size i rfl HB2.out HI.out ?_)
      | fail)
    refine (HPl.out w2).mono ?_
    rintro e w3 ⟨rfl, o3⟩
    have HO3 := Lib.hid ((HO2.out.trans o3).alloc (.cells zC 33))
    have HX3 := Lib.hid (o3.alloc (.cells zC 33))
    have hle2 : w2.heap.size ≤ w3.heap.size := o3.size
    have hle3 : w.heap.size ≤ w3.heap.size := (HO2.out.trans o3).size
    clear o3
    go_wp2_with (first
      | (refine wpList_store_ref rfl (.tmp 5) (.tmp 12) rfl rfl w3.heap.size i nf0 rfl rfl (Box.new w3 _ _) HI.out sum0_ok ?_)
      | fail)
    intro u4 hB4 ho4
    have HB4 := Lib.hid hB4
    have HO4 := Lib.hid (HO3.out.then ho4 (fun i e => .inr (by rw [show i = _ from e]; exact hle3)))
    have HX4 := Lib.hid (HX3.out.then ho4 (fun i e => .inr (by rw [show i = _ from e]; exact hle2)))
    have HBi := Lib.hid (HB2.out.only HX4.out (fun e => e))
    have HS4 := Lib.hid (HS5.out.nix HX4.out)
    clear hB4 ho4
    go_wp2_with (first
      | (refine wpList_load_ref rfl (.tmp 5) rfl w3.heap.size i rfl HB4.out HI.out ?_)
      | fail)
    refine (HMy.out u4).mono ?_
    rintro e u5 ⟨rfl, o5⟩
    have HO5 := Lib.hid (HO4.out.trans o5)
    have HB5 := Lib.hid (HB4.out.only o5 (fun e => e))
    have HBi5 := Lib.hid (HBi.out.only o5 (fun e => e))
    have HS5' := Lib.hid (HS4.out.nix o5)
    clear o5
    go_wp2_with fail
    have fr_R : ∀ j s, j < 26 → (([some 31, some 32, some 33, some 34, some 35, some 36, some 37, some 38, some 39, some 40, some 41, some 42, some 43, some 44, some 45, some 46, some 47, some 48, some 49, some 50, some 51, some 52, some 53, some 54, some 55, some 2] : List (Option Nat)).all fun d => d != some s) = true → ([some 31, some 32, some 33, some 34, some 35, some 36, some 37, some 38, some 39, some 40, some 41, some 42, some 43, some 44, some 45, some 46, some 47, some 48, some 49, some 50, some 51, some 52, some 53, some 54, some 55, some 2] : List (Option Nat)).getD j none ≠ some s := by
      intro j s hj ha e
      rw [List.getD_eq_getElem?_getD, List.getElem?_eq_getElem (by exact hj), Option.getD_some] at e
      have := List.all_eq_true.1 ha _ (List.getElem_mem (by exact hj))
      rw [e] at this
      simp at this
    refine region_tel (by kernel_rfl) (fun k0 => ([some 31, some 32, some 33, some 34, some 35, some 36, some 37, some 38, some 39, some 40, some 41, some 42, some 43, some 44, some 45, some 46, some 47, some 48, some 49, some 50, some 51, some 52, some 53, some 54, some 55, some 2] : List (Option Nat)).getD k0 none) (PL [eqP (.agg (nfc i)), eqP (iv 0), eqP (.bool true), eqP (.bool true), eqP (iv 0), eqP (.bool true), eqP (.bool true), eqP (.bool true), eqP (.slice A5 34 c5), eqP (.agg (nfc i)), (fun v u => Src u v B), eqP (.bool true), eqP (.bool true), eqP (.bool true), eqP (.agg (nfc i)), eqP (.bool KB), eqP (.pointer (some ⟨w.heap.size, 8, none⟩)), eqP (.agg S), eqP (.agg Z), eqP (.bool KB), eqP (.bool true), eqP (.bool true), eqP (.bool true), eqP (.bool true), eqP (.bool true), eqP (.bool true)]) (Only Nix) (fun _ u => Only Nix u5 u) 56 26 rfl (by kernel_rfl) (by kernel_rfl) rfl (by kernel_rfl) (by kernel_rfl) (stab_all ⟨fun _ _ _ h _ => h, fun _ _ _ h _ => h, fun _ _ _ h _ => h, fun _ _ _ h _ => h, fun _ _ _ h _ => h, fun _ _ _ h _ => h, fun _ _ _ h _ => h, fun _ _ _ h _ => h, fun _ _ _ h _ => h, fun _ _ _ h _ => h, fun _ _ _ h hf => h.nix hf, fun _ _ _ h _ => h, fun _ _ _ h _ => h, fun _ _ _ h _ => h, fun _ _ _ h _ => h, fun _ _ _ h _ => h, fun _ _ _ h _ => h, fun _ _ _ h _ => h, fun _ _ _ h _ => h, fun _ _ _ h _ => h, fun _ _ _ h _ => h, fun _ _ _ h _ => h, fun _ _ _ h _ => h, fun _ _ _ h _ => h, fun _ _ _ h _ => h, fun _ _ _ h _ => h, trivial⟩) ((Only.refl _ _).drew) ?stepsR (fun vs => [(31, vs 0), (32, vs 1), (33, vs 2), (34, vs 3), (35, vs 4), (36, vs 5), (37, vs 6), (38, vs 7), (39, vs 8), (40, vs 9), (41, vs 10), (42, vs 11), (43, vs 12), (44, vs 13), (45, vs 14), (46, vs 15), (47, vs 16), (48, vs 17), (49, vs 18), (50, vs 19), (51, vs 20), (52, vs 21), (53, vs 22), (54, vs 23), (55, vs 24), (2, vs 25)]) (fun vs => rfl) ?doneR
    case stepsR =>
      refine ⟨?_, ?_, ?_, ?_, ?_, ?_, ?_, ?_, ?_, ?_, ?_, ?_, ?_, ?_, ?_, ?_, ?_, ?_, ?_, ?_, ?_, ?_, ?_, ?_, ?_, ?_, trivial⟩
      · intro L vs A' u hW hL0 hnd K' hK
        have hS := hW.wi.s
        have r1 : A'.tmps[1]? = some (.pointer (some ⟨w.heap.size, 0, none⟩)) := (hW.out 1 (fun j hj => fr_R j 1 hj (by kernel_rfl))).trans rfl
        have hb := HBi5.out.only hS (fun e => e)
        have hx : A'.eval (.tmp 1) = .pointer (some ⟨w.heap.size, 0, none⟩) := eval_of r1
        refine step_load_info rfl (.tmp 1) rfl w.heap.size i hx hb HI.out ?_
        exact hK _ _ rfl (Only.refl Nix _) (hS)
      · intro L vs A' u hW hL0 hnd K' hK
        have hS := hW.wi.s
        have r31 : A'.tmps[31]? = some (.agg (nfc i)) := by
          obtain ⟨x, e, h⟩ := hW.tel 0 31 (by decide) (hnd 0 (by kernel_rfl)) rfl
          rw [e]; exact congrArg some h
        have HCL := Lib.hid (HCk.out u)
        go_simp
        refine (HCL.out).mono ?_
        rintro _ u' ⟨rfl, ho2⟩
        exact hK _ _ rfl ho2 (hS.trans ho2)
      · intro L vs A' u hW hL0 hnd K' hK
        have hS := hW.wi.s
        have r32 : A'.tmps[32]? = some (iv 0) := by
          obtain ⟨x, e, h⟩ := hW.tel 1 32 (by decide) (hnd 1 (by kernel_rfl)) rfl
          rw [e]; exact congrArg some h
        go_simp
        exact hK _ _ (by first | rfl | (show _ = _; simp)) (Only.refl Nix _) (hS)
      · intro L vs A' u hW hL0 hnd K' hK
        have hS := hW.wi.s
        have r33 : A'.tmps[33]? = some (.bool true) := by
          obtain ⟨x, e, h⟩ := hW.tel 2 33 (by decide) (hnd 2 (by kernel_rfl)) rfl
          rw [e]; exact congrArg some h
        go_simp
        exact hK _ _ (by first | rfl | (show _ = _; simp)) (Only.refl Nix _) (hS)
      · intro L vs A' u hW hL0 hnd K' hK
        have hS := hW.wi.s
        have r4 : A'.tmps[4]? = some (iv 0) := (hW.out 4 (fun j hj => fr_R j 4 hj (by kernel_rfl))).trans rfl
        have r34 : A'.tmps[34]? = some (.bool true) := by
          obtain ⟨x, e, h⟩ := hW.tel 3 34 (by decide) (hnd 3 (by kernel_rfl)) rfl
          rw [e]; exact congrArg some h
        rw [if_pos (wanted_yes (j := 3) (s := 34) (b := true) rfl (by kernel_rfl) r34)]
        go_simp
        exact hK _ _ (by first | rfl | (show _ = _; simp)) (Only.refl Nix _) (hS)
      · intro L vs A' u hW hL0 hnd K' hK
        have hS := hW.wi.s
        have r35 : A'.tmps[35]? = some (iv 0) := by
          obtain ⟨x, e, h⟩ := hW.tel 4 35 (by decide) (hnd 4 (by kernel_rfl)) rfl
          rw [e]; exact congrArg some h
        have r34 : A'.tmps[34]? = some (.bool true) := by
          obtain ⟨x, e, h⟩ := hW.tel 3 34 (by decide) (hnd 3 (by kernel_rfl)) rfl
          rw [e]; exact congrArg some h
        rw [if_pos (wanted_yes (j := 3) (s := 34) (b := true) rfl (by kernel_rfl) r34)]
        go_simp
        exact hK _ _ (by first | rfl | (show _ = _; simp)) (Only.refl Nix _) (hS)
      · intro L vs A' u hW hL0 hnd K' hK
        have hS := hW.wi.s
        have r34 : A'.tmps[34]? = some (.bool true) := by
          obtain ⟨x, e, h⟩ := hW.tel 3 34 (by decide) (hnd 3 (by kernel_rfl)) rfl
          rw [e]; exact congrArg some h
        have r36 : A'.tmps[36]? = some (.bool true) := by
          obtain ⟨x, e, h⟩ := hW.tel 5 36 (by decide) (hnd 5 (by kernel_rfl)) rfl
          rw [e]; exact congrArg some h
        go_simp
        exact hK _ _ (by first | rfl | (show _ = _; simp)) (Only.refl Nix _) (hS)
      · intro L vs A' u hW hL0 hnd K' hK
        have hS := hW.wi.s
        have r37 : A'.tmps[37]? = some (.bool true) := by
          obtain ⟨x, e, h⟩ := hW.tel 6 37 (by decide) (hnd 6 (by kernel_rfl)) rfl
          rw [e]; exact congrArg some h
        go_simp
        exact hK _ _ (by first | rfl | (show _ = _; simp)) (Only.refl Nix _) (hS)
      · intro L vs A' u hW hL0 hnd K' hK
        have hS := hW.wi.s
        have r3 : A'.tmps[3]? = some (.slice A5 34 c5) := (hW.out 3 (fun j hj => fr_R j 3 hj (by kernel_rfl))).trans rfl
        have r38 : A'.tmps[38]? = some (.bool true) := by
          obtain ⟨x, e, h⟩ := hW.tel 7 38 (by decide) (hnd 7 (by kernel_rfl)) rfl
          rw [e]; exact congrArg some h
        rw [if_pos (wanted_yes (j := 7) (s := 38) (b := true) rfl (by kernel_rfl) r38)]
        go_simp
        exact hK _ _ (by first | rfl | (show _ = _; simp)) (Only.refl Nix _) (hS)
      · intro L vs A' u hW hL0 hnd K' hK
        have hS := hW.wi.s
        have r5 : A'.tmps[5]? = some (.pointer (some ⟨w3.heap.size, 0, none⟩)) := (hW.out 5 (fun j hj => fr_R j 5 hj (by kernel_rfl))).trans rfl
        have r38 : A'.tmps[38]? = some (.bool true) := by
          obtain ⟨x, e, h⟩ := hW.tel 7 38 (by decide) (hnd 7 (by kernel_rfl)) rfl
          rw [e]; exact congrArg some h
        rw [if_pos (wanted_yes (j := 7) (s := 38) (b := true) rfl (by kernel_rfl) r38)]
        have hb := HB5.out.only hS (fun e => e)
        have hx : A'.eval (.tmp 5) = .pointer (some ⟨w3.heap.size, 0, none⟩) := eval_of r5
        refine wp_load_ref (.tmp 5) rfl w3.heap.size i hx hb HI.out ?_
        exact hK _ _ rfl (Only.refl Nix _) (hS)
      · intro L vs A' u hW hL0 hnd K' hK
        have hS := hW.wi.s
        have r40 : A'.tmps[40]? = some (.agg (nfc i)) := by
          obtain ⟨x, e, h⟩ := hW.tel 9 40 (by decide) (hnd 9 (by kernel_rfl)) rfl
          rw [e]; exact congrArg some h
        have r38 : A'.tmps[38]? = some (.bool true) := by
          obtain ⟨x, e, h⟩ := hW.tel 7 38 (by decide) (hnd 7 (by kernel_rfl)) rfl
          rw [e]; exact congrArg some h
        rw [if_pos (wanted_yes (j := 7) (s := 38) (b := true) rfl (by kernel_rfl) r38)]
        have HCL := Lib.hid (HBy.out u)
        go_simp
        refine (HCL.out).mono ?_
        rintro _ u' ⟨v, rfl, s, ho2⟩
        exact hK _ _ s ho2 (hS.trans ho2)
      · intro L vs A' u hW hL0 hnd K' hK
        have hS := hW.wi.s
        have r39 : A'.tmps[39]? = some (.slice A5 34 c5) := by
          obtain ⟨x, e, h⟩ := hW.tel 8 39 (by decide) (hnd 8 (by kernel_rfl)) rfl
          rw [e]; exact congrArg some h
        have r38 : A'.tmps[38]? = some (.bool true) := by
          obtain ⟨x, e, h⟩ := hW.tel 7 38 (by decide) (hnd 7 (by kernel_rfl)) rfl
          rw [e]; exact congrArg some h
        rw [if_pos (wanted_yes (j := 7) (s := 38) (b := true) rfl (by kernel_rfl) r38)]
        obtain ⟨x, e41, h41⟩ := hW.tel 10 41 (by decide) (hnd 10 (by kernel_rfl)) rfl
        have h41' : Src u x B := h41
        have HCL := Lib.hid (equal_at (HS5'.out.nix hS) h41')
        have r41 : A'.tmps[41]? = some x := e41
        clear e41 h41 h41'
        go_simp
        refine (HCL.out).mono ?_
        rintro _ u' ⟨rfl, ho2⟩
        exact hK _ _ rfl ho2 (hS.trans ho2)
      · intro L vs A' u hW hL0 hnd K' hK
        have hS := hW.wi.s
        have r38 : A'.tmps[38]? = some (.bool true) := by
          obtain ⟨x, e, h⟩ := hW.tel 7 38 (by decide) (hnd 7 (by kernel_rfl)) rfl
          rw [e]; exact congrArg some h
        have r42 : A'.tmps[42]? = some (.bool true) := by
          obtain ⟨x, e, h⟩ := hW.tel 11 42 (by decide) (hnd 11 (by kernel_rfl)) rfl
          rw [e]; exact congrArg some h
        go_simp
        exact hK _ _ (by first | rfl | (show _ = _; simp)) (Only.refl Nix _) (hS)
      · intro L vs A' u hW hL0 hnd K' hK
        have hS := hW.wi.s
        have r43 : A'.tmps[43]? = some (.bool true) := by
          obtain ⟨x, e, h⟩ := hW.tel 12 43 (by decide) (hnd 12 (by kernel_rfl)) rfl
          rw [e]; exact congrArg some h
        go_simp
        exact hK _ _ (by first | rfl | (show _ = _; simp)) (Only.refl Nix _) (hS)
      · intro L vs A' u hW hL0 hnd K' hK
        have hS := hW.wi.s
        have r1 : A'.tmps[1]? = some (.pointer (some ⟨w.heap.size, 0, none⟩)) := (hW.out 1 (fun j hj => fr_R j 1 hj (by kernel_rfl))).trans rfl
        have r44 : A'.tmps[44]? = some (.bool true) := by
          obtain ⟨x, e, h⟩ := hW.tel 13 44 (by decide) (hnd 13 (by kernel_rfl)) rfl
          rw [e]; exact congrArg some h
        rw [if_pos (wanted_yes (j := 13) (s := 44) (b := true) rfl (by kernel_rfl) r44)]
        have hb := HBi5.out.only hS (fun e => e)
        have hx : A'.eval (.tmp 1) = .pointer (some ⟨w.heap.size, 0, none⟩) := eval_of r1
        refine wp_load_info (.tmp 1) rfl w.heap.size i hx hb HI.out ?_
        exact hK _ _ rfl (Only.refl Nix _) (hS)
      · intro L vs A' u hW hL0 hnd K' hK
        have hS := hW.wi.s
        have r45 : A'.tmps[45]? = some (.agg (nfc i)) := by
          obtain ⟨x, e, h⟩ := hW.tel 14 45 (by decide) (hnd 14 (by kernel_rfl)) rfl
          rw [e]; exact congrArg some h
        have r44 : A'.tmps[44]? = some (.bool true) := by
          obtain ⟨x, e, h⟩ := hW.tel 13 44 (by decide) (hnd 13 (by kernel_rfl)) rfl
          rw [e]; exact congrArg some h
        rw [if_pos (wanted_yes (j := 13) (s := 44) (b := true) rfl (by kernel_rfl) r44)]
        have HCL := Lib.hid (HKn.out u)
        go_simp
        refine (HCL.out).mono ?_
        rintro _ u' ⟨rfl, ho2⟩
        exact hK _ _ rfl ho2 (hS.trans ho2)
      · intro L vs A' u hW hL0 hnd K' hK
        have hS := hW.wi.s
        have r1 : A'.tmps[1]? = some (.pointer (some ⟨w.heap.size, 0, none⟩)) := (hW.out 1 (fun j hj => fr_R j 1 hj (by kernel_rfl))).trans rfl
        have r44 : A'.tmps[44]? = some (.bool true) := by
          obtain ⟨x, e, h⟩ := hW.tel 13 44 (by decide) (hnd 13 (by kernel_rfl)) rfl
          rw [e]; exact congrArg some h
        rw [if_pos (wanted_yes (j := 13) (s := 44) (b := true) rfl (by kernel_rfl) r44)]
        go_simp
        exact hK _ _ (by first | rfl | (show _ = _; simp)) (Only.refl Nix _) (hS)
      · intro L vs A' u hW hL0 hnd K' hK
        have hS := hW.wi.s
        have r47 : A'.tmps[47]? = some (.pointer (some ⟨w.heap.size, 8, none⟩)) := by
          obtain ⟨x, e, h⟩ := hW.tel 16 47 (by decide) (hnd 16 (by kernel_rfl)) rfl
          rw [e]; exact congrArg some h
        have r44 : A'.tmps[44]? = some (.bool true) := by
          obtain ⟨x, e, h⟩ := hW.tel 13 44 (by decide) (hnd 13 (by kernel_rfl)) rfl
          rw [e]; exact congrArg some h
        rw [if_pos (wanted_yes (j := 13) (s := 44) (b := true) rfl (by kernel_rfl) r44)]
        have hb := HBi5.out.only hS (fun e => e)
        have hx : A'.eval (.tmp 47) = .pointer (some ⟨w.heap.size, 8, none⟩) := eval_of r47
        refine wp_load_mid _ (.tmp 47) rfl w.heap.size 8 hx (i.s.map byt) _ (range_sum hb HI.out) Try.underlying24 rfl (by rw [List.length_map, HI.out.1]; exact Try.size_sum) ?_
        rw [HSs.out]
        exact hK _ _ rfl (Only.refl Nix _) (hS)
      · intro L vs A' u hW hL0 hnd K' hK
        have hS := hW.wi.s
        have r44 : A'.tmps[44]? = some (.bool true) := by
          obtain ⟨x, e, h⟩ := hW.tel 13 44 (by decide) (hnd 13 (by kernel_rfl)) rfl
          rw [e]; exact congrArg some h
        rw [if_pos (wanted_yes (j := 13) (s := 44) (b := true) rfl (by kernel_rfl) r44)]
        have hz : (Try.prog.built 24 ((#[] : Array (Nat × Operand)).map fun (i, x) => (i, A'.eval x)).toList) = some Z := by simp; exact HZ.out
        refine wp_build 24 #[] rfl (by rw [hz]; rfl) ?_
        rw [hz]
        exact hK _ _ rfl (Only.refl Nix _) (hS)
      · intro L vs A' u hW hL0 hnd K' hK
        have hS := hW.wi.s
        have r48 : A'.tmps[48]? = some (.agg S) := by
          obtain ⟨x, e, h⟩ := hW.tel 17 48 (by decide) (hnd 17 (by kernel_rfl)) rfl
          rw [e]; exact congrArg some h
        have r49 : A'.tmps[49]? = some (.agg Z) := by
          obtain ⟨x, e, h⟩ := hW.tel 18 49 (by decide) (hnd 18 (by kernel_rfl)) rfl
          rw [e]; exact congrArg some h
        have r44 : A'.tmps[44]? = some (.bool true) := by
          obtain ⟨x, e, h⟩ := hW.tel 13 44 (by decide) (hnd 13 (by kernel_rfl)) rfl
          rw [e]; exact congrArg some h
        rw [if_pos (wanted_yes (j := 13) (s := 44) (b := true) rfl (by kernel_rfl) r44)]
        have HN := HNN.out
        have HG := HGG.out
        go_simp
        exact hK _ _ rfl (Only.refl Nix _) (hS)
      · intro L vs A' u hW hL0 hnd K' hK
        have hS := hW.wi.s
        have r46 : A'.tmps[46]? = some (.bool KB) := by
          obtain ⟨x, e, h⟩ := hW.tel 15 46 (by decide) (hnd 15 (by kernel_rfl)) rfl
          rw [e]; exact congrArg some h
        have r50 : A'.tmps[50]? = some (.bool KB) := by
          obtain ⟨x, e, h⟩ := hW.tel 19 50 (by decide) (hnd 19 (by kernel_rfl)) rfl
          rw [e]; exact congrArg some h
        have r44 : A'.tmps[44]? = some (.bool true) := by
          obtain ⟨x, e, h⟩ := hW.tel 13 44 (by decide) (hnd 13 (by kernel_rfl)) rfl
          rw [e]; exact congrArg some h
        rw [if_pos (wanted_yes (j := 13) (s := 44) (b := true) rfl (by kernel_rfl) r44)]
        cases KB
        all_goals
          go_simp
          exact hK _ _ (by first | rfl | (show _ = _; simp)) (Only.refl Nix _) (hS)
      · intro L vs A' u hW hL0 hnd K' hK
        have hS := hW.wi.s
        have r44 : A'.tmps[44]? = some (.bool true) := by
          obtain ⟨x, e, h⟩ := hW.tel 13 44 (by decide) (hnd 13 (by kernel_rfl)) rfl
          rw [e]; exact congrArg some h
        have r51 : A'.tmps[51]? = some (.bool true) := by
          obtain ⟨x, e, h⟩ := hW.tel 20 51 (by decide) (hnd 20 (by kernel_rfl)) rfl
          rw [e]; exact congrArg some h
        go_simp
        exact hK _ _ (by first | rfl | (show _ = _; simp)) (Only.refl Nix _) (hS)
      · intro L vs A' u hW hL0 hnd K' hK
        have hS := hW.wi.s
        have r52 : A'.tmps[52]? = some (.bool true) := by
          obtain ⟨x, e, h⟩ := hW.tel 21 52 (by decide) (hnd 21 (by kernel_rfl)) rfl
          rw [e]; exact congrArg some h
        go_simp
        exact hK _ _ (by first | rfl | (show _ = _; simp)) (Only.refl Nix _) (hS)
      · intro L vs A' u hW hL0 hnd K' hK
        have hS := hW.wi.s
        have r53 : A'.tmps[53]? = some (.bool true) := by
          obtain ⟨x, e, h⟩ := hW.tel 22 53 (by decide) (hnd 22 (by kernel_rfl)) rfl
          rw [e]; exact congrArg some h
        rw [if_pos (wanted_yes (j := 22) (s := 53) (b := true) rfl (by kernel_rfl) r53)]
        have HCL := Lib.hid (HAw.out u)
        go_simp
        refine (HCL.out).mono ?_
        rintro _ u' ⟨rfl, ho2⟩
        exact hK _ _ rfl ho2 (hS.trans ho2)
      · intro L vs A' u hW hL0 hnd K' hK
        have hS := hW.wi.s
        have r53 : A'.tmps[53]? = some (.bool true) := by
          obtain ⟨x, e, h⟩ := hW.tel 22 53 (by decide) (hnd 22 (by kernel_rfl)) rfl
          rw [e]; exact congrArg some h
        have r54 : A'.tmps[54]? = some (.bool true) := by
          obtain ⟨x, e, h⟩ := hW.tel 23 54 (by decide) (hnd 23 (by kernel_rfl)) rfl
          rw [e]; exact congrArg some h
        go_simp
        exact hK _ _ (by first | rfl | (show _ = _; simp)) (Only.refl Nix _) (hS)
      · intro L vs A' u hW hL0 hnd K' hK
        have hS := hW.wi.s
        have r55 : A'.tmps[55]? = some (.bool true) := by
          obtain ⟨x, e, h⟩ := hW.tel 24 55 (by decide) (hnd 24 (by kernel_rfl)) rfl
          rw [e]; exact congrArg some h
        go_simp
        exact hK _ _ (by first | rfl | (show _ = _; simp)) (Only.refl Nix _) (hS)
    case doneR =>
      intro L vs u9 hS hP hall
      have e0 : vs 0 = .agg (nfc i) := hP 0 (by decide)
      have e1 : vs 1 = iv 0 := hP 1 (by decide)
      have e2 : vs 2 = .bool true := hP 2 (by decide)
      have e3 : vs 3 = .bool true := hP 3 (by decide)
      have e4 : vs 4 = iv 0 := hP 4 (by decide)
      have e5 : vs 5 = .bool true := hP 5 (by decide)
      have e6 : vs 6 = .bool true := hP 6 (by decide)
      have e7 : vs 7 = .bool true := hP 7 (by decide)
      have e8 : vs 8 = .slice A5 34 c5 := hP 8 (by decide)
      have e9 : vs 9 = .agg (nfc i) := hP 9 (by decide)
      have e11 : vs 11 = .bool true := hP 11 (by decide)
      have e12 : vs 12 = .bool true := hP 12 (by decide)
      have e13 : vs 13 = .bool true := hP 13 (by decide)
      have e14 : vs 14 = .agg (nfc i) := hP 14 (by decide)
      have e15 : vs 15 = .bool KB := hP 15 (by decide)
      have e16 : vs 16 = .pointer (some ⟨w.heap.size, 8, none⟩) := hP 16 (by decide)
      have e17 : vs 17 = .agg S := hP 17 (by decide)
      have e18 : vs 18 = .agg Z := hP 18 (by decide)
      have e19 : vs 19 = .bool KB := hP 19 (by decide)
      have e20 : vs 20 = .bool true := hP 20 (by decide)
      have e21 : vs 21 = .bool true := hP 21 (by decide)
      have e22 : vs 22 = .bool true := hP 22 (by decide)
      have e23 : vs 23 = .bool true := hP 23 (by decide)
      have e24 : vs 24 = .bool true := hP 24 (by decide)
      have e25 : vs 25 = .bool true := hP 25 (by decide)
      simp only [putV, List.foldl_cons, List.foldl_nil, List.setIfInBounds_toArray, List.set_cons_zero, List.set_cons_succ, e0, e1, e2, e3, e4, e5, e6, e7, e8, e9, e11, e12, e13, e14, e15, e16, e17, e18, e19, e20, e21, e22, e23, e24, e25]
      clear e0 e1 e2 e3 e4 e5 e6 e7 e8 e9 e11 e12 e13 e14 e15 e16 e17 e18 e19 e20 e21 e22 e23 e24 e25 hP hall fr_R
      have HOz := Lib.hid (HO5.out.trans hS)
      clear hS
      go_wp2
      go_ret
      exact ⟨rfl, HOz.out⟩
  · have hck : ckI i = 10 := if_neg hm
    have HW2 : Hid (∀ e w', WrR W1 i e w' → ∃ A5 c5, e = .returned (.tuple #[.slice A5 0 c5, iv 10]) ∧ Only Nix W1 w') := Lib.hid (fun e w' h => by
      obtain ⟨⟨v5, rfl, hown⟩, ho⟩ := h
      rw [if_neg hm] at hown
      obtain ⟨A5, c5, rfl⟩ := hown.slice
      rw [hck]
      exact ⟨A5, c5, rfl, ho⟩)
    rw [hck] at HCk
    rw [decide_eq_false hm] at HMy
    clear hi hck hm
    go_enter Try.func3, Try.ntmps3
    go_wp2_with (first
      | (refine wpList_load_info rfl (.tmp 1) rfl w.heap.size i rfl HB.out HI.out ?_)
      | fail)
    refine (HWr.out).mono ?_
    intro e w2 hw2
    obtain ⟨A5, c5, rfl, o2⟩ := HW2.out e w2 hw2
    have HO2 := Lib.hid (HO.out.trans o2)
    have HB2 := Lib.hid (HB.out.only o2 (fun e => e))
    clear hw2 o2
    go_wp2_with (first
      | (refine wpList_load_info rfl (.tmp 1) rfl w.heap.size i rfl HB2.out HI.out ?_)
      | fail)
    refine (HPl.out w2).mono ?_
    rintro e w3 ⟨rfl, o3⟩
    have HO3 := Lib.hid ((HO2.out.trans o3).alloc (.cells zC 33))
    have HX3 := Lib.hid (o3.alloc (.cells zC 33))
    have hle2 : w2.heap.size ≤ w3.heap.size := o3.size
    have hle3 : w.heap.size ≤ w3.heap.size := (HO2.out.trans o3).size
    clear o3
    go_wp2_with (first
      | (refine wpList_store_ref rfl (.tmp 5) (.tmp 12) rfl rfl w3.heap.size i nf0 rfl rfl (Box.new w3 _ _) HI.out sum0_ok ?_)
      | fail)
    intro u4 hB4 ho4
    have HB4 := Lib.hid hB4
    have HO4 := Lib.hid (HO3.out.then ho4 (fun i e => .inr (by rw [show i = _ from e]; exact hle3)))
    have HX4 := Lib.hid (HX3.out.then ho4 (fun i e => .inr (by rw [show i = _ from e]; exact hle2)))
    have HBi := Lib.hid (HB2.out.only HX4.out (fun e => e))
    clear hB4 ho4
    go_wp2_with (first
      | (refine wpList_load_ref rfl (.tmp 5) rfl w3.heap.size i rfl HB4.out HI.out ?_)
      | fail)
    refine (HMy.out u4).mono ?_
    rintro e u5 ⟨rfl, o5⟩
    have HO5 := Lib.hid (HO4.out.trans o5)
    have HBi5 := Lib.hid (HBi.out.only o5 (fun e => e))
    clear o5
    go_wp2_with (first
      | (refine wpList_load_info rfl (.tmp 1) rfl w.heap.size i rfl HBi5.out HI.out ?_)
      | fail)
    refine (HCk.out u5).mono ?_
    rintro e u6 ⟨rfl, o6⟩
    have HO6 := Lib.hid (HO5.out.trans o6)
    have HA6 := Lib.hid (HAw.out u6)
    clear o6
    go_wp2_with fail
    refine (HA6.out).mono ?_
    rintro e u7 ⟨rfl, o7⟩
    have HO7 := Lib.hid (HO6.out.trans o7)
    clear o7
    go_wp2
    go_ret
    exact ⟨rfl, HO7.out⟩
end Go.Proofs.Ytllpeknjnhdbmaa
