/-
  InfoReads: its walk.
-/
import Derived.Test.YtpgcaijanmpanaaIRC
import Derived.Test.YtpgcaijanmpanaaIY
namespace Go.Proofs.Ytpgcaijanmpanaa
open Go.RowKit Go.Shelf

theorem Try.size_one : (Try.prog.info? 3).map (·.size) = some 1 := by kernel_rfl
theorem fields_ref : Try.prog.underlying 33 = some (.struct (Try.prog.fieldsOf 33)) := by kernel_rfl
theorem run_eq_eight (d : Nat) (l : List Int) (hl : l.length = 8) (w : World) : (Op.equalIn (d + 1 + 1) 31 (.agg (l.map iv).toArray) (.agg (l.map iv).toArray)).run Try.prog w = .ok true w := by
  rw [run_equalIn_arr Try.underlying31 Try.size_one agg_int (d + 1) (l.map iv) (l.map iv) qv (by simpa using hl) (by simpa using hl) (fun x y hx hy w => by
    obtain ⟨a, _, rfl⟩ := List.mem_map.1 hx
    obtain ⟨b, _, rfl⟩ := List.mem_map.1 hy
    rw [run_equalIn_int w d 3 .i64 .i64 a b Try.underlying3]
    rfl)]
  congr 1
  rw [List.all_eq_true]
  intro i hi
  have h1 : i < l.length := by simp at hi; omega
  rw [List.getD_eq_getElem?_getD, List.getElem?_map, List.getElem?_eq_getElem h1]
  simp [qv]
theorem nfc_eight (i : Nf) : (nfc i).extract 0 (0 + 8) = ([i.r, i.c, i.d, i.mb, i.xb, i.mf, i.xf, i.t].map iv).toArray := by
  unfold nfc nfL
  rw [List.extract_toArray, List.extract_eq_take_drop]
  rfl
set_option maxRecDepth 100000 in
theorem run_eql_ref (i : Nf) (hs : SumOk i.s) (w : World) : (binOp .eql 33 (.agg (nfc i)) (.agg (nfc i))).run Try.prog w = .ok (.bool true) w := by
  have key : (Op.equalIn 10000 33 (.agg (nfc i)) (.agg (nfc i))).run Try.prog w = .ok true w := by
    rw [run_equalIn_struct w 9999 _ _ _ fields_ref (by kernel_rfl)]
    have hf := fields_ref.symm.trans Try.underlying33
    injection hf with hf
    injection hf with hf
    rw [hf]
    have h24 := nfc_size hs
    generalize hd : (9997 : Nat) = d
    rw [show (9999 : Nat) = d + 1 + 1 from by omega]
    refine eqf_gen (v := .agg ([i.r, i.c, i.d, i.mb, i.xb, i.mf, i.xf, i.t].map iv).toArray) (by decide) (fun w => part_agg Try.underlying31 rfl Try.size_eight (by rw [h24]; decide) (nfc_eight i) w) (fun w => run_eq_eight d _ rfl w) ?_ w
    refine eqf_gen (v := .agg (i.s.map byt).toArray) (by decide) (fun w => part_agg Try.underlying24 rfl Try.size_sum (by rw [h24]; decide) (nfc_sum hs) w) (fun w => ?_) eqf_nil
    have := run_eq_byts d i.s i.s hs.1 hs.1 w
    simpa using this
  rw [run_eql_struct, key]
  rfl
theorem guard_ref (op : BinOp) (x y : Operand) (xs ys : Array Value) (w : World) : (eqGuard op 33 x y (.agg xs) (.agg ys)).run Try.prog w = .ok () w := run_eqGuard_agg w op _ x y xs ys (by kernel_rfl)
theorem wp_load_ref2 {w : World} {o : Oper} {a : Act} {K : Act → World → Prop} {Q : Exit → Act → World → Prop} (x : Operand) (ho : o.op = .load 33 x)
    (b : Nat) (i : Nf) (hx : a.eval x = .pointer (some ⟨b, 0, none⟩)) (hB : Box w b 33 (nfc i)) (hi : SumOk i.s) (h : K (a.put o.dst (.agg (nfc i))) w) : Oper.wp Try.prog o a w K Q :=
  wp_load_row _ x ho b hx _ _ (0, 0) _ hB Try.underlying33 rfl (by rw [nfc_size hi]; exact Try.size_ref) h
set_option maxRecDepth 100000 in
set_option maxHeartbeats 8000000 in
theorem infoReads_any {w : World} {v : Value} {bs : List Nat} (hs : Src w v bs) (hcap : ∀ A n c, v = .slice A n c → n ≤ c) :
    Calls Try.prog 4 #[v] w fun e w' => e = .returned (.bool true) ∧ Only Nix w w' := by
  obtain ⟨A, c, rfl⟩ := hs.slice
  have hsm := hs.small
  have HR := Lib.hid (read_any hs hcap)
  have HAw : Hid (∀ u, Calls Try.prog 13 #[] u fun e w' => e = .returned (.bool true) ∧ Only Nix u w') := Lib.hid awake_any
  have hbb : Hid (∀ x ∈ bs, x < 256) := Lib.hid hs.lt
  by_cases h100 : 100 < bs.length
  · have h100i : (100 : Int) < (bs.length : Int) := by omega
    have HA1 := Lib.hid (HAw.out w)
    clear hs hcap
    go_enter Try.func4, Try.ntmps4
    go_wp2_with fail
    refine (HA1.out).mono ?_
    rintro e w2 ⟨rfl, o2⟩
    have HO2 := Lib.hid o2
    clear o2
    go_wp2
    go_ret
    exact ⟨rfl, HO2.out⟩
  · have h100i : ¬ (100 : Int) < (bs.length : Int) := by omega
    have hZi := run_eql_info nf0 sum0_ok
    have hGi := guard_info
    obtain ⟨Z0, hZ0⟩ : ∃ Z, nf0 = Z := ⟨_, rfl⟩
    have HZs : Hid (SumOk Z0.s) := Lib.hid (by rw [← hZ0]; exact sum0_ok)
    have HZb : Hid (Try.prog.built 26 [] = some (nfc Z0)) := Lib.hid (by rw [← hZ0]; exact built_zero)
    have HZc : Hid (∀ u : World, Box (u.alloc (.cells zC 26)) u.heap.size 26 (nfc Z0)) := Lib.hid (fun u => by rw [← hZ0]; exact Box.new u _ _)
    have HZr : Hid (∀ u : World, Box (u.alloc (.cells zC 33)) u.heap.size 33 (nfc Z0)) := Lib.hid (fun u => by rw [← hZ0]; exact Box.new u _ _)
    rw [hZ0] at hZi
    have HZi := Lib.hid hZi
    have HGi := Lib.hid hGi
    clear hZi hGi
    by_cases h34 : bs.length = 34
    · have hr := rd_sum h34 hbb.out
      have HRs := Lib.hid hr
      have HFr : Hid (∀ u, Only Nix w u → Calls Try.prog 18 #[.slice A bs.length c] u fun e w' => e = .returned (.agg (nfc (rdI bs))) ∧ Only Nix u w') := Lib.hid (fun u hu => by
        have h := hs.nix hu
        obtain ⟨ad, rfl, _⟩ := h.at_ (k := 0) (by omega)
        rw [h34] at h ⊢
        exact readI_any h)
      have HMy : Hid (∀ u, Calls Try.prog 11 #[.agg (nfc (rdI bs))] u fun e w' => e = .returned (.bool (decide (mayI (rdI bs)))) ∧ Only Nix u w') := Lib.hid (fun u => may_any (rdI bs))
      have HPl : Hid (∀ u, Calls Try.prog 10 #[.agg (nfc (rdI bs))] u fun e w' => e = .returned (.agg (nfc (rdI bs))) ∧ Only Nix u w') := Lib.hid (fun u => plain_any (rdI bs) HRs.out)
      have HEq := Lib.hid (run_eql_ref (rdI bs) hr)
      have HGr := Lib.hid guard_ref
      unfold RdR at HR
      by_cases hm : mayI (rdI bs)
      · have hA : rdA bs = rdI bs := if_pos ⟨h34, hm⟩
        have hE : rdE bs = 0 := by unfold rdE; rw [if_neg (by omega), if_neg (by omega), if_pos hm]
        rw [hA, hE] at HR
        rw [decide_eq_true hm] at HMy
        clear hs hcap hA hE hr hm hZ0
        rw [h34] at HR HFr ⊢
        generalize rdI bs = X at *
        go_enter Try.func4, Try.ntmps4
        go_wp2_with fail
        refine (HR.out).mono ?_
        rintro e w2 ⟨rfl, o2⟩
        have HO2 := Lib.hid (o2.alloc (.cells zC 26))
        have hle2 : w.heap.size ≤ w2.heap.size := o2.size
        clear o2
        go_wp2_with (first
          | (refine wpList_store_info rfl (.tmp 3) (.tmp 13) rfl rfl w2.heap.size X Z0 rfl rfl (HZc.out w2) HRs.out HZs.out ?_)
          | fail)
        intro u3 hB3 ho3
        have HB3 := Lib.hid hB3
        have HO3 := Lib.hid (HO2.out.then ho3 (fun i e => .inr (by rw [show i = _ from e]; exact hle2)))
        clear hB3 ho3
        have HF3 := Lib.hid (HFr.out u3 HO3.out)
        go_wp2_with fail
        refine (HF3.out).mono ?_
        rintro e w4 ⟨rfl, o4⟩
        have HO4 := Lib.hid ((HO3.out.trans o4).alloc (.cells zC 33))
        have HB4 := Lib.hid ((HB3.out.only o4 (fun e => e)).alloc (.cells zC 33))
        have hle4 : w.heap.size ≤ w4.heap.size := (HO3.out.trans o4).size
        have hlt4 : w2.heap.size < w4.heap.size := (HB3.out.only o4 (fun e => e)).lt
        clear o4
        go_wp2_with (first
          | (refine wpList_store_ref rfl (.tmp 5) (.tmp 42) rfl rfl w4.heap.size X Z0 rfl rfl (HZr.out w4) HRs.out HZs.out ?_)
          | fail)
        intro u5 hB5 ho5
        have HB5 := Lib.hid hB5
        have HI5 := Lib.hid (HB4.out.only ho5 (fun e => by rw [show w2.heap.size = w4.heap.size from e] at hlt4; omega))
        have HO5 := Lib.hid (HO4.out.then ho5 (fun i e => .inr (by rw [show i = _ from e]; exact hle4)))
        have HM5 := Lib.hid (HMy.out u5)
        clear hB5 ho5
        go_wp2_with (first
          | (refine wpList_load_ref rfl (.tmp 5) rfl w4.heap.size X rfl HB5.out HRs.out ?_)
          | fail)
        refine (HM5.out).mono ?_
        rintro e u6 ⟨rfl, o6⟩
        have HO6 := Lib.hid (HO5.out.trans o6)
        have HB6 := Lib.hid (HB5.out.only o6 (fun e => e))
        have HI6 := Lib.hid (HI5.out.only o6 (fun e => e))
        clear o6
        go_wp2_with fail
        have fr_R : ∀ j s, j < 12 → (([some 56, some 57, some 58, some 59, some 60, some 61, some 62, some 63, some 64, some 65, some 66, some 2] : List (Option Nat)).all fun d => d != some s) = true → ([some 56, some 57, some 58, some 59, some 60, some 61, some 62, some 63, some 64, some 65, some 66, some 2] : List (Option Nat)).getD j none ≠ some s := by
          intro j s hj ha e
          rw [List.getD_eq_getElem?_getD, List.getElem?_eq_getElem (by exact hj), Option.getD_some] at e
          have := List.all_eq_true.1 ha _ (List.getElem_mem (by exact hj))
          rw [e] at this
          simp at this
        refine region_tel (by kernel_rfl) (fun k0 => ([some 56, some 57, some 58, some 59, some 60, some 61, some 62, some 63, some 64, some 65, some 66, some 2] : List (Option Nat)).getD k0 none) (PL [eqP (iv 0), eqP (.bool true), eqP (.bool true), eqP (.agg (nfc X)), eqP (.agg (nfc X)), eqP (.agg (nfc X)), eqP (.bool true), eqP (.bool true), eqP (.bool true), eqP (.bool true), eqP (.bool true), eqP (.bool true)]) (fun _ _ => True) (fun _ u => Only Nix u6 u) 67 12 rfl (by kernel_rfl) (by kernel_rfl) rfl (by kernel_rfl) (by kernel_rfl) (stab_all ⟨fun _ _ _ h _ => h, fun _ _ _ h _ => h, fun _ _ _ h _ => h, fun _ _ _ h _ => h, fun _ _ _ h _ => h, fun _ _ _ h _ => h, fun _ _ _ h _ => h, fun _ _ _ h _ => h, fun _ _ _ h _ => h, fun _ _ _ h _ => h, fun _ _ _ h _ => h, fun _ _ _ h _ => h, trivial⟩) ((Only.refl _ _).drew) ?stepsR (fun vs => [(56, vs 0), (57, vs 1), (58, vs 2), (59, vs 3), (60, vs 4), (61, vs 5), (62, vs 6), (63, vs 7), (64, vs 8), (65, vs 9), (66, vs 10), (2, vs 11)]) (fun vs => rfl) ?doneR
        case stepsR =>
          refine ⟨?_, ?_, ?_, ?_, ?_, ?_, ?_, ?_, ?_, ?_, ?_, ?_, trivial⟩
          · intro L vs A' u hW hL0 hnd K' hK
            have hS := hW.wi.s
            have r4 : A'.tmps[4]? = some (iv 0) := (hW.out 4 (fun j hj => fr_R j 4 hj (by kernel_rfl))).trans rfl
            go_simp
            exact hK _ _ (by first | rfl | (show _ = _; simp)) trivial (hS)
          · intro L vs A' u hW hL0 hnd K' hK
            have hS := hW.wi.s
            have r56 : A'.tmps[56]? = some (iv 0) := by
              obtain ⟨x, e, h⟩ := hW.tel 0 56 (by decide) (hnd 0 (by kernel_rfl)) rfl
              rw [e]; exact congrArg some h
            go_simp
            exact hK _ _ (by first | rfl | (show _ = _; simp)) trivial (hS)
          · intro L vs A' u hW hL0 hnd K' hK
            have hS := hW.wi.s
            have r57 : A'.tmps[57]? = some (.bool true) := by
              obtain ⟨x, e, h⟩ := hW.tel 1 57 (by decide) (hnd 1 (by kernel_rfl)) rfl
              rw [e]; exact congrArg some h
            go_simp
            exact hK _ _ (by first | rfl | (show _ = _; simp)) trivial (hS)
          · intro L vs A' u hW hL0 hnd K' hK
            have hS := hW.wi.s
            have r3 : A'.tmps[3]? = some (.pointer (some ⟨w2.heap.size, 0, none⟩)) := (hW.out 3 (fun j hj => fr_R j 3 hj (by kernel_rfl))).trans rfl
            have r58 : A'.tmps[58]? = some (.bool true) := by
              obtain ⟨x, e, h⟩ := hW.tel 2 58 (by decide) (hnd 2 (by kernel_rfl)) rfl
              rw [e]; exact congrArg some h
            rw [if_pos (wanted_yes (j := 2) (s := 58) (b := true) rfl (by kernel_rfl) r58)]
            have hb := HI6.out.only hS (fun e => e)
            have hx : A'.eval (.tmp 3) = .pointer (some ⟨w2.heap.size, 0, none⟩) := eval_of r3
            refine wp_load_info (.tmp 3) rfl w2.heap.size X hx hb HRs.out ?_
            exact hK _ _ rfl trivial (hS)
          · intro L vs A' u hW hL0 hnd K' hK
            have hS := hW.wi.s
            have r59 : A'.tmps[59]? = some (.agg (nfc X)) := by
              obtain ⟨x, e, h⟩ := hW.tel 3 59 (by decide) (hnd 3 (by kernel_rfl)) rfl
              rw [e]; exact congrArg some h
            have r58 : A'.tmps[58]? = some (.bool true) := by
              obtain ⟨x, e, h⟩ := hW.tel 2 58 (by decide) (hnd 2 (by kernel_rfl)) rfl
              rw [e]; exact congrArg some h
            rw [if_pos (wanted_yes (j := 2) (s := 58) (b := true) rfl (by kernel_rfl) r58)]
            have HCL := Lib.hid (HPl.out u)
            go_simp
            refine (HCL.out).mono ?_
            rintro _ u' ⟨rfl, ho2⟩
            exact hK _ _ rfl trivial (hS.trans ho2)
          · intro L vs A' u hW hL0 hnd K' hK
            have hS := hW.wi.s
            have r5 : A'.tmps[5]? = some (.pointer (some ⟨w4.heap.size, 0, none⟩)) := (hW.out 5 (fun j hj => fr_R j 5 hj (by kernel_rfl))).trans rfl
            have r58 : A'.tmps[58]? = some (.bool true) := by
              obtain ⟨x, e, h⟩ := hW.tel 2 58 (by decide) (hnd 2 (by kernel_rfl)) rfl
              rw [e]; exact congrArg some h
            rw [if_pos (wanted_yes (j := 2) (s := 58) (b := true) rfl (by kernel_rfl) r58)]
            have hb := HB6.out.only hS (fun e => e)
            have hx : A'.eval (.tmp 5) = .pointer (some ⟨w4.heap.size, 0, none⟩) := eval_of r5
            refine wp_load_ref2 (.tmp 5) rfl w4.heap.size X hx hb HRs.out ?_
            exact hK _ _ rfl trivial (hS)
          · intro L vs A' u hW hL0 hnd K' hK
            have hS := hW.wi.s
            have r60 : A'.tmps[60]? = some (.agg (nfc X)) := by
              obtain ⟨x, e, h⟩ := hW.tel 4 60 (by decide) (hnd 4 (by kernel_rfl)) rfl
              rw [e]; exact congrArg some h
            have r61 : A'.tmps[61]? = some (.agg (nfc X)) := by
              obtain ⟨x, e, h⟩ := hW.tel 5 61 (by decide) (hnd 5 (by kernel_rfl)) rfl
              rw [e]; exact congrArg some h
            have r58 : A'.tmps[58]? = some (.bool true) := by
              obtain ⟨x, e, h⟩ := hW.tel 2 58 (by decide) (hnd 2 (by kernel_rfl)) rfl
              rw [e]; exact congrArg some h
            rw [if_pos (wanted_yes (j := 2) (s := 58) (b := true) rfl (by kernel_rfl) r58)]
            have HN := HEq.out
            have HG := HGr.out
            go_simp
            exact hK _ _ rfl trivial (hS)
          · intro L vs A' u hW hL0 hnd K' hK
            have hS := hW.wi.s
            have r58 : A'.tmps[58]? = some (.bool true) := by
              obtain ⟨x, e, h⟩ := hW.tel 2 58 (by decide) (hnd 2 (by kernel_rfl)) rfl
              rw [e]; exact congrArg some h
            have r62 : A'.tmps[62]? = some (.bool true) := by
              obtain ⟨x, e, h⟩ := hW.tel 6 62 (by decide) (hnd 6 (by kernel_rfl)) rfl
              rw [e]; exact congrArg some h
            go_simp
            exact hK _ _ (by first | rfl | (show _ = _; simp)) trivial (hS)
          · intro L vs A' u hW hL0 hnd K' hK
            have hS := hW.wi.s
            have r63 : A'.tmps[63]? = some (.bool true) := by
              obtain ⟨x, e, h⟩ := hW.tel 7 63 (by decide) (hnd 7 (by kernel_rfl)) rfl
              rw [e]; exact congrArg some h
            go_simp
            exact hK _ _ (by first | rfl | (show _ = _; simp)) trivial (hS)
          · intro L vs A' u hW hL0 hnd K' hK
            have hS := hW.wi.s
            have r64 : A'.tmps[64]? = some (.bool true) := by
              obtain ⟨x, e, h⟩ := hW.tel 8 64 (by decide) (hnd 8 (by kernel_rfl)) rfl
              rw [e]; exact congrArg some h
            rw [if_pos (wanted_yes (j := 8) (s := 64) (b := true) rfl (by kernel_rfl) r64)]
            have HCL := Lib.hid (HAw.out u)
            go_simp
            refine (HCL.out).mono ?_
            rintro _ u' ⟨rfl, ho2⟩
            exact hK _ _ rfl trivial (hS.trans ho2)
          · intro L vs A' u hW hL0 hnd K' hK
            have hS := hW.wi.s
            have r64 : A'.tmps[64]? = some (.bool true) := by
              obtain ⟨x, e, h⟩ := hW.tel 8 64 (by decide) (hnd 8 (by kernel_rfl)) rfl
              rw [e]; exact congrArg some h
            have r65 : A'.tmps[65]? = some (.bool true) := by
              obtain ⟨x, e, h⟩ := hW.tel 9 65 (by decide) (hnd 9 (by kernel_rfl)) rfl
              rw [e]; exact congrArg some h
            go_simp
            exact hK _ _ (by first | rfl | (show _ = _; simp)) trivial (hS)
          · intro L vs A' u hW hL0 hnd K' hK
            have hS := hW.wi.s
            have r66 : A'.tmps[66]? = some (.bool true) := by
              obtain ⟨x, e, h⟩ := hW.tel 10 66 (by decide) (hnd 10 (by kernel_rfl)) rfl
              rw [e]; exact congrArg some h
            go_simp
            exact hK _ _ (by first | rfl | (show _ = _; simp)) trivial (hS)
        case doneR =>
          intro L vs u9 hS hP hall
          have e0 : vs 0 = iv 0 := hP 0 (by decide)
          have e1 : vs 1 = .bool true := hP 1 (by decide)
          have e2 : vs 2 = .bool true := hP 2 (by decide)
          have e3 : vs 3 = .agg (nfc X) := hP 3 (by decide)
          have e4 : vs 4 = .agg (nfc X) := hP 4 (by decide)
          have e5 : vs 5 = .agg (nfc X) := hP 5 (by decide)
          have e6 : vs 6 = .bool true := hP 6 (by decide)
          have e7 : vs 7 = .bool true := hP 7 (by decide)
          have e8 : vs 8 = .bool true := hP 8 (by decide)
          have e9 : vs 9 = .bool true := hP 9 (by decide)
          have e10 : vs 10 = .bool true := hP 10 (by decide)
          have e11 : vs 11 = .bool true := hP 11 (by decide)
          simp only [putV, List.foldl_cons, List.foldl_nil, List.setIfInBounds_toArray, List.set_cons_zero, List.set_cons_succ, e0, e1, e2, e3, e4, e5, e6, e7, e8, e9, e10, e11]
          clear e0 e1 e2 e3 e4 e5 e6 e7 e8 e9 e10 e11 hP hall fr_R
          have HOz := Lib.hid (HO6.out.trans hS)
          clear hS
          go_wp2
          go_ret
          exact ⟨rfl, HOz.out⟩
      · have hA : rdA bs = Z0 := by rw [← hZ0]; exact if_neg (fun h => hm h.2)
        have hE : rdE bs = 10 := by unfold rdE; rw [if_neg (by omega), if_neg (by omega), if_neg hm]
        rw [hA, hE] at HR
        rw [decide_eq_false hm] at HMy
        clear hs hcap hA hE hr hm hZ0
        rw [h34] at HR HFr ⊢
        generalize rdI bs = X at *
        go_enter Try.func4, Try.ntmps4
        go_wp2_with fail
        refine (HR.out).mono ?_
        rintro e w2 ⟨rfl, o2⟩
        have HO2 := Lib.hid (o2.alloc (.cells zC 26))
        have hle2 : w.heap.size ≤ w2.heap.size := o2.size
        clear o2
        go_wp2_with (first
          | (refine wpList_store_info rfl (.tmp 3) (.tmp 13) rfl rfl w2.heap.size Z0 Z0 rfl rfl (HZc.out w2) HZs.out HZs.out ?_)
          | fail)
        intro u3 hB3 ho3
        have HB3 := Lib.hid hB3
        have HO3 := Lib.hid (HO2.out.then ho3 (fun i e => .inr (by rw [show i = _ from e]; exact hle2)))
        clear hB3 ho3
        have HF3 := Lib.hid (HFr.out u3 HO3.out)
        go_wp2_with fail
        refine (HF3.out).mono ?_
        rintro e w4 ⟨rfl, o4⟩
        have HO4 := Lib.hid ((HO3.out.trans o4).alloc (.cells zC 33))
        have HB4 := Lib.hid ((HB3.out.only o4 (fun e => e)).alloc (.cells zC 33))
        have hle4 : w.heap.size ≤ w4.heap.size := (HO3.out.trans o4).size
        have hlt4 : w2.heap.size < w4.heap.size := (HB3.out.only o4 (fun e => e)).lt
        clear o4
        go_wp2_with (first
          | (refine wpList_store_ref rfl (.tmp 5) (.tmp 42) rfl rfl w4.heap.size X Z0 rfl rfl (HZr.out w4) HRs.out HZs.out ?_)
          | fail)
        intro u5 hB5 ho5
        have HB5 := Lib.hid hB5
        have HI5 := Lib.hid (HB4.out.only ho5 (fun e => by rw [show w2.heap.size = w4.heap.size from e] at hlt4; omega))
        have HO5 := Lib.hid (HO4.out.then ho5 (fun i e => .inr (by rw [show i = _ from e]; exact hle4)))
        have HM5 := Lib.hid (HMy.out u5)
        clear hB5 ho5
        go_wp2_with (first
          | (refine wpList_load_ref rfl (.tmp 5) rfl w4.heap.size X rfl HB5.out HRs.out ?_)
          | fail)
        refine (HM5.out).mono ?_
        rintro e u6 ⟨rfl, o6⟩
        have HO6 := Lib.hid (HO5.out.trans o6)
        have HB6 := Lib.hid (HB5.out.only o6 (fun e => e))
        have HI6 := Lib.hid (HI5.out.only o6 (fun e => e))
        clear o6
        have HA6 := Lib.hid (HAw.out u6)
        have hzi := HZi.out
        have hgi := HGi.out
        go_wp2_with (first
          | (refine wpList_load_info rfl (.tmp 3) rfl w2.heap.size Z0 rfl HI6.out HZs.out ?_)
          | (refine wpList_build_is rfl _ _ rfl (nfc Z0) (by simp; exact HZb.out) ?_)
          | fail)
        refine (HA6.out).mono ?_
        rintro e w7 ⟨rfl, o7⟩
        have HO7 := Lib.hid (HO6.out.trans o7)
        clear o7
        go_wp2
        go_ret
        exact ⟨rfl, HO7.out⟩
    · have hrd : rdA bs = Z0 := by rw [← hZ0]; exact if_neg (fun h => h34 h.1)
      unfold RdR at HR
      rw [hrd] at HR
      rcases Nat.lt_or_gt_of_ne h34 with hlt | hgt
      · have hE : rdE bs = 11 := if_pos hlt
        have hlti : (bs.length : Int) < 34 := by omega
        rw [hE] at HR
        clear hs hcap hE hrd hZ0 h34
        generalize bs.length = n at *
        go_enter Try.func4, Try.ntmps4
        go_wp2_with fail
        refine (HR.out).mono ?_
        rintro e w2 ⟨rfl, o2⟩
        have HO2 := Lib.hid (o2.alloc (.cells zC 26))
        have hle2 : w.heap.size ≤ w2.heap.size := o2.size
        clear o2
        go_wp2_with (first
          | (refine wpList_store_info rfl (.tmp 3) (.tmp 13) rfl rfl w2.heap.size Z0 Z0 rfl rfl (HZc.out w2) HZs.out HZs.out ?_)
          | fail)
        intro u3 hB3 ho3
        have HB3 := Lib.hid hB3
        have HO3 := Lib.hid (HO2.out.then ho3 (fun i e => .inr (by rw [show i = _ from e]; exact hle2)))
        have HA3 := Lib.hid (HAw.out u3)
        have hzi := HZi.out
        have hgi := HGi.out
        clear hB3 ho3
        go_wp2_with (first
          | (refine wpList_load_info rfl (.tmp 3) rfl w2.heap.size Z0 rfl HB3.out HZs.out ?_)
          | (refine wpList_build_is rfl _ _ rfl (nfc Z0) (by simp; exact HZb.out) ?_)
          | fail)
        refine (HA3.out).mono ?_
        rintro e w4 ⟨rfl, o4⟩
        have HO4 := Lib.hid (HO3.out.trans o4)
        clear o4
        go_wp2
        go_ret
        exact ⟨rfl, HO4.out⟩
      · have hE : rdE bs = 12 := by unfold rdE; rw [if_neg (by omega), if_pos hgt]
        have hlti : ¬ (bs.length : Int) < 34 := by omega
        have hgti : (34 : Int) < (bs.length : Int) := by omega
        rw [hE] at HR
        clear hs hcap hE hrd hZ0 h34
        generalize bs.length = n at *
        go_enter Try.func4, Try.ntmps4
        go_wp2_with fail
        refine (HR.out).mono ?_
        rintro e w2 ⟨rfl, o2⟩
        have HO2 := Lib.hid (o2.alloc (.cells zC 26))
        have hle2 : w.heap.size ≤ w2.heap.size := o2.size
        clear o2
        go_wp2_with (first
          | (refine wpList_store_info rfl (.tmp 3) (.tmp 13) rfl rfl w2.heap.size Z0 Z0 rfl rfl (HZc.out w2) HZs.out HZs.out ?_)
          | fail)
        intro u3 hB3 ho3
        have HB3 := Lib.hid hB3
        have HO3 := Lib.hid (HO2.out.then ho3 (fun i e => .inr (by rw [show i = _ from e]; exact hle2)))
        have HA3 := Lib.hid (HAw.out u3)
        have hzi := HZi.out
        have hgi := HGi.out
        clear hB3 ho3
        go_wp2_with (first
          | (refine wpList_load_info rfl (.tmp 3) rfl w2.heap.size Z0 rfl HB3.out HZs.out ?_)
          | (refine wpList_build_is rfl _ _ rfl (nfc Z0) (by simp; exact HZb.out) ?_)
          | fail)
        refine (HA3.out).mono ?_
        rintro e w4 ⟨rfl, o4⟩
        have HO4 := Lib.hid (HO3.out.trans o4)
        clear o4
        go_wp2
        go_ret
        exact ⟨rfl, HO4.out⟩
end Go.Proofs.Ytpgcaijanmpanaa
