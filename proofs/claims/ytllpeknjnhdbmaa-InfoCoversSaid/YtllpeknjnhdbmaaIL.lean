/-
  InfoOf: its walk.
-/
import Derived.Test.YtllpeknjnhdbmaaIK
import Derived.Test.YtllpeknjnhdbmaaIQ
namespace Go.Proofs.Ytllpeknjnhdbmaa
open Go.RowKit Go.Shelf

/-- a row loaded in a region that draws its order -/
theorem step_load_row {w : World} {ops : Array Oper} {o : Oper} {a : Act} {K : Act → World → Prop} {Q : Exit → Act → World → Prop} {E : Prop} (hg : o.guard = none) (ty : TypeId) (x : Operand) (ho : o.op = .load ty x)
    (b : Nat) (hx : a.eval x = .pointer (some ⟨b, 0, none⟩)) {t : TypeId} {cs : Array Value} (hB : Box w b t cs) (d : TypeDesc) (hd : (match d with | .struct _ | .array _ _ => true | _ => false) = true) (hu : Try.prog.underlying ty = some d) (hi : (Try.prog.info? ty).map (·.size) = some cs.size)
    (h : K (a.put o.dst (.agg cs)) w) : if Region.wanted o (yielded ops a.tmps) = true then Oper.wp Try.prog o a w K Q else E := by
  rw [if_pos (by simp [Region.wanted, hg])]
  exact wp_load_row ty x ho b hx _ _ (0, 0) d hB hu (by cases d <;> simp_all) hi h
/-- what build makes, in such a region -/
theorem step_build_is {w : World} {ops : Array Oper} {o : Oper} {a : Act} {K : Act → World → Prop} {Q : Exit → Act → World → Prop} {E : Prop} (hg : o.guard = none) (t : TypeId) (parts : Array (Nat × Operand)) (ho : o.op = .build t parts)
    (cells : Array Value) (hb : Try.prog.built t (parts.map fun (i, x) => (i, a.eval x)).toList = some cells) (h : K (a.put o.dst (.agg cells)) w) : if Region.wanted o (yielded ops a.tmps) = true then Oper.wp Try.prog o a w K Q else E := by
  rw [if_pos (by simp [Region.wanted, hg])]
  exact wp_build t parts ho (by rw [hb]; rfl) (by rw [hb]; exact h)
def LpRel (W : World) (l : List (Int × Int)) (s7 s8 s9 : Value) (wr : World) : Prop :=
  ∃ k : Nat, k ≤ l.length ∧ s9 = iv k ∧ Owns wr W.heap.size 3 iv s7 ((l.take k).map (·.1)) ∧ Owns wr W.heap.size 3 iv s8 ((l.take k).map (·.2)) ∧ Apart2 s7 s8 ∧ Only Nix W wr
set_option maxRecDepth 100000 in
set_option maxHeartbeats 8000000 in
theorem infoOf_any {w : World} {v : Value} (r c d : Int) {s : List Nat} (hs : SumOk s) {l : List (Int × Int)} (hv : PSrc w v l) :
    Calls Try.prog 6 #[.agg #[iv r, iv c, iv d], .agg (s.map byt).toArray, v] w fun e w' => e = .returned (.bool true) ∧ Only Nix w w' := by
  obtain ⟨A, cc, rfl⟩ := hv.slice
  have hsm := hv.small
  obtain ⟨S, hS⟩ : ∃ S, (s.map byt).toArray = S := ⟨_, rfl⟩
  have a1 := (Only.refl Nix w).alloc (.cells #[iv r, iv c, iv d] 23)
  have b1 := Box.new w 23 #[iv r, iv c, iv d]
  obtain ⟨W1, hW1⟩ : ∃ W1, w.alloc (.cells #[iv r, iv c, iv d] 23) = W1 := ⟨_, rfl⟩
  rw [hW1] at a1 b1
  have a2 := a1.alloc (.cells S 24)
  have b1 := b1.alloc (.cells S 24)
  have b2 := Box.new W1 24 S
  obtain ⟨W2, hW2⟩ : ∃ W2, W1.alloc (.cells S 24) = W2 := ⟨_, rfl⟩
  rw [hW2] at a2 b1 b2
  have HO2 := Lib.hid a2
  have HB1 := Lib.hid b1
  have HB2 := Lib.hid b2
  have HV := Lib.hid (hv.nix a2)
  have HFw := Lib.hid (few_any HV.out)
  have HAw : Hid (∀ u, Calls Try.prog 13 #[] u fun e w' => e = .returned (.bool true) ∧ Only Nix u w') := Lib.hid awake_any
  have HSok := Lib.hid hs
  have HS16 : Hid (S.size = 16) := Lib.hid (by rw [← hS]; simp [hs.1])
  by_cases hfew : Few l
  · have hlen : l.length ≤ 100 := hfew.2
    rw [decide_eq_true hfew] at HFw
    have HL := Lib.hid hfew
    have HOf : Hid (∀ u, Only Nix W2 u → Calls Try.prog 21 #[.agg #[iv r, iv c, iv d], .agg S, .slice A l.length cc] u fun e w' => OfR u (ofI r c d s l) e w') := Lib.hid (fun u hu => by rw [← hS]; exact of_any r c d hs (HV.out.nix hu) hfew.ok)
    have HRf := Lib.hid (rf_of r c d s l (fun p hp => by have := hfew.1 p hp; unfold ok1 at this; omega))
    have hX : SumOk (ofI r c d s l).s := by unfold ofI; split <;> exact hs
    have HX := Lib.hid hX
    have HBt : Hid (Try.prog.built 26 [(0, .agg #[iv r, iv c, iv d]), (1, iv (ofI r c d s l).mb), (2, iv (ofI r c d s l).xb), (3, iv (ofI r c d s l).mf), (4, iv (ofI r c d s l).xf), (5, iv (ofI r c d s l).t), (6, .agg S)] = some (nfc (ofI r c d s l))) := Lib.hid (by
      rw [← hS]
      have := built_full r c d (ofI r c d s l).mb (ofI r c d s l).xb (ofI r c d s l).mf (ofI r c d s l).xf (ofI r c d s l).t hs
      rw [this]
      unfold ofI
      split <;> rfl)
    have HE := Lib.hid (run_eql_info (ofI r c d s l) hX)
    rw [hS]
    clear a1 a2 b1 b2 hv hs hS hfew hX
    generalize ofI r c d s l = X at *
    go_enter Try.func6, Try.ntmps6
    go_wp2_with fail
    refine (HFw.out).mono ?_
    rintro e w2 ⟨rfl, rfl⟩
    go_wp2
    go_loopw [7, 8, 9] (fun s7 s8 s9 wr => LpRel W2 l s7 s8 s9 wr) (fun _ _ s9 _ => l.length - (intOf s9).toNat)
    case atStart => exact ⟨0, Nat.zero_le _, rfl, Owns.nil _ _ _ _, Owns.nil _ _ _ _, Apart2.nil _, Only.refl _ _⟩
    case round =>
      obtain ⟨k, hk, rfl, h7, h8, hd, ho⟩ := hrel
      have H7 := Lib.hid h7
      have H8 := Lib.hid h8
      have HD := Lib.hid hd
      have HO := Lib.hid ho
      by_cases hlt : k < l.length
      · obtain ⟨ad, rfl, hxW, hyW⟩ := HV.out.at_ hlt
        have HYW := Lib.hid hyW
        have hx := cell_keep ho hxW
        have hy := cell_keep ho hyW
        have hlti : (k : Int) < (l.length : Int) := by omega
        have HT := Lib.hid (List.take_succ_eq_append_getElem hlt)
        generalize l[k] = p at *
        have HY := Lib.hid hy
        clear hxW hyW
        have hl1 : ((l.take k).map (·.1)).length ≤ 100000 := by rw [List.length_map, List.length_take]; omega
        have hl2 : ((l.take k).map (·.2)).length ≤ 100000 := by rw [List.length_map, List.length_take]; omega
        have HL1 := Lib.hid hl1
        have HL2 := Lib.hid hl2
        have hsz : W2.heap.size ≤ wr.heap.size := ho.size
        have HSz := Lib.hid hsz
        clear h7 h8 hd ho hl1 hl2 hsz
        go_wp2_with (at_builtin; refine app_int rfl (.tmp 21) (.tmp 27) rfl W2.heap.size u7 ((l.take k).map (·.1)) rfl ?own1 wr.heap.size p.1 rfl ?cell1 HL1.out ?base1 ?rest1)
        case own1 => exact World.ownsRow.alloc H7.out _
        case cell1 => simp
        case base1 => have := HSz.out; simp; omega
        case rest1 =>
          intro v7 w3 r3 g3 m3
          have HA3 : Hid (Only Nix W2 w3) := Lib.hid ((HO.out.alloc _).grew g3 (fun g hg => (H7.out.lt hg).1))
          have H7' := Lib.hid r3
          have H8' := Lib.hid (Owns.grown (World.ownsRow.alloc H8.out _) g3 (fun g hg e => HD.out g e hg))
          have HD' := Lib.hid (HD.out.moved (World.ownsRow.alloc H8.out (.cells #[iv p.1] 3)) (by simpa using m3))
          have hy3 : w3.cell? ⟨(ad.add (k * 2)).block, (ad.add (k * 2)).off + 1, none⟩ = some (iv p.2) := by
            have := cell_keep (Only.alloc (Only.refl Nix wr) (.cells #[iv p.1] 3)) HY.out
            rw [World.cell?_of_block (w := wr.alloc (.cells #[iv p.1] 3)) (g3.block _ (World.block_lt_of_cell? _ _ this) (fun e => by
              have h1 := (H7.out.lt e.symm).1
              have h2 := World.block_lt_of_cell? W2 _ HYW.out
              have h3 : (ad.add (k * 2)).block < W2.heap.size := h2
              omega))]
            exact this
          have hsz : W2.heap.size ≤ w3.heap.size := HA3.out.size
          have HSz3 := Lib.hid hsz
          clear r3 g3 m3 hsz hx hy
          go_wp2_with (at_builtin; refine app_int rfl (.tmp 29) (.tmp 35) rfl W2.heap.size u8 ((l.take k).map (·.2)) rfl ?own2 w3.heap.size p.2 rfl ?cell2 HL2.out ?base2 ?rest2)
          case own2 => exact World.ownsRow.alloc H8'.out _
          case cell2 => simp
          case base2 => have := HSz3.out; simp; omega
          case rest2 =>
            intro v8 w4 r4 g4 m4
            have HA4 : Hid (Only Nix W2 w4) := Lib.hid ((HA3.out.alloc _).grew g4 (fun g hg => (H8'.out.lt hg).1))
            have H8'' := Lib.hid r4
            have H7'' := Lib.hid (Owns.grown (World.ownsRow.alloc H7'.out _) g4 (fun g hg e => HD'.out g hg e))
            have HD'' := Lib.hid ((HD'.out.symm.moved (World.ownsRow.alloc H7'.out (.cells #[iv p.2] 3)) (by simpa using m4)).symm)
            clear r4 g4 m4
            go_wp2
            go_roundw
            case rel => exact ⟨k + 1, hlt, by go_num, by rw [HT.out]; simpa using H7''.out, by rw [HT.out]; simpa using H8''.out, HD''.out, HA4.out⟩
            case measure => simp [intOf]; omega
      · have hlti : ¬ (k : Int) < (l.length : Int) := by omega
        have hd2 : decide (k < l.length) = false := by simp; omega
        obtain rfl : k = l.length := by omega
        rw [List.take_length] at h7 h8
        have hb1 : ∀ x ∈ l.map (·.1), 1 ≤ x ∧ x ≤ 65535 := fun x hx => by
          obtain ⟨p, hp, rfl⟩ := List.mem_map.1 hx
          have := HL.out.1 p hp
          unfold ok1 at this
          omega
        have hb2 : ∀ x ∈ l.map (·.2), 1 ≤ x ∧ x ≤ 1073741824 := fun x hx => by
          obtain ⟨p, hp, rfl⟩ := List.mem_map.1 hx
          have := HL.out.1 p hp
          unfold ok1 at this
          omega
        have i7 := h7.ints (by rw [List.length_map]; omega) (fun x hx => by have := hb1 x hx; omega)
        have i8 := h8.ints (by rw [List.length_map]; omega) (fun x hx => by have := hb2 x hx; omega)
        have HRo := Lib.hid (refOf_any i7 i8 (by simp) (by rw [List.length_map]; omega) (fun x hx => by have := hb1 x hx; omega))
        rw [HRf.out] at HRo
        clear h7 h8 hd ho hb1 hb2 i7 i8 H7 H8 HD
        go_wp2_with fail
        refine (HRo.out).mono ?_
        rintro e w3 ⟨rfl, o3⟩
        have HO3 := Lib.hid (HO.out.trans o3)
        have ha : Only Nix W2 (w3.alloc (.cells (ov X.mb X.xb X.mf X.xf X.t) 50)) := HO3.out.alloc _
        have hb10 := Box.new w3 50 (ov X.mb X.xb X.mf X.xf X.t)
        obtain ⟨U, hU⟩ : ∃ U, w3.alloc (.cells (ov X.mb X.xb X.mf X.xf X.t) 50) = U := ⟨_, rfl⟩
        rw [hU] at ha hb10
        have HOU := Lib.hid ha
        have HB10 := Lib.hid hb10
        clear o3 ha hb10 HRo
        simp only [List.map_cons, List.map_nil]
        go_wp2_with fail
        have fr_R : ∀ j s, j < 22 → (([some 40, some 41, some 42, some 43, some 44, some 45, some 46, some 47, some 48, some 49, some 50, some 51, some 52, some 53, some 54, some 55, some 56, some 57, some 58, some 59, some 60, some 6] : List (Option Nat)).all fun d => d != some s) = true → ([some 40, some 41, some 42, some 43, some 44, some 45, some 46, some 47, some 48, some 49, some 50, some 51, some 52, some 53, some 54, some 55, some 56, some 57, some 58, some 59, some 60, some 6] : List (Option Nat)).getD j none ≠ some s := by
          intro j s hj ha e
          rw [List.getD_eq_getElem?_getD, List.getElem?_eq_getElem (by exact hj), Option.getD_some] at e
          have := List.all_eq_true.1 ha _ (List.getElem_mem (by exact hj))
          rw [e] at this
          simp at this
        refine region_tel (by kernel_rfl) (fun k0 => ([some 40, some 41, some 42, some 43, some 44, some 45, some 46, some 47, some 48, some 49, some 50, some 51, some 52, some 53, some 54, some 55, some 56, some 57, some 58, some 59, some 60, some 6] : List (Option Nat)).getD k0 none) (PL [eqP (.agg #[iv r, iv c, iv d]), eqP (.agg S), eqP (.slice A l.length cc), eqP (.agg (nfc X)), eqP (.agg #[iv r, iv c, iv d]), eqP (.pointer (some ⟨w3.heap.size, 0, none⟩)), eqP (iv X.mb), eqP (.pointer (some ⟨w3.heap.size, 1, none⟩)), eqP (iv X.xb), eqP (.pointer (some ⟨w3.heap.size, 2, none⟩)), eqP (iv X.mf), eqP (.pointer (some ⟨w3.heap.size, 3, none⟩)), eqP (iv X.xf), eqP (.pointer (some ⟨w3.heap.size, 4, none⟩)), eqP (iv X.t), eqP (.agg S), eqP (.agg (nfc X)), eqP (.bool true), eqP (.bool true), eqP (.bool true), eqP (.bool true), eqP (.bool true)]) (fun _ _ => True) (fun _ u => Only Nix U u) 61 22 rfl (by kernel_rfl) (by kernel_rfl) rfl (by kernel_rfl) (by kernel_rfl) (stab_all ⟨fun _ _ _ h _ => h, fun _ _ _ h _ => h, fun _ _ _ h _ => h, fun _ _ _ h _ => h, fun _ _ _ h _ => h, fun _ _ _ h _ => h, fun _ _ _ h _ => h, fun _ _ _ h _ => h, fun _ _ _ h _ => h, fun _ _ _ h _ => h, fun _ _ _ h _ => h, fun _ _ _ h _ => h, fun _ _ _ h _ => h, fun _ _ _ h _ => h, fun _ _ _ h _ => h, fun _ _ _ h _ => h, fun _ _ _ h _ => h, fun _ _ _ h _ => h, fun _ _ _ h _ => h, fun _ _ _ h _ => h, fun _ _ _ h _ => h, fun _ _ _ h _ => h, trivial⟩) ((Only.refl _ _).drew) ?stepsR (fun vs => [(40, vs 0), (41, vs 1), (42, vs 2), (43, vs 3), (44, vs 4), (45, vs 5), (46, vs 6), (47, vs 7), (48, vs 8), (49, vs 9), (50, vs 10), (51, vs 11), (52, vs 12), (53, vs 13), (54, vs 14), (55, vs 15), (56, vs 16), (57, vs 17), (58, vs 18), (59, vs 19), (60, vs 20), (6, vs 21)]) (fun vs => rfl) ?doneR
        case stepsR =>
          refine ⟨?_, ?_, ?_, ?_, ?_, ?_, ?_, ?_, ?_, ?_, ?_, ?_, ?_, ?_, ?_, ?_, ?_, ?_, ?_, ?_, ?_, ?_, trivial⟩
          · intro L vs A' u hW hL0 hnd K' hK
            have hS := hW.wi.s
            have r3 : A'.tmps[3]? = some (.pointer (some ⟨w.heap.size, 0, none⟩)) := (hW.out 3 (fun j hj => fr_R j 3 hj (by kernel_rfl))).trans rfl
            have hb := (HB1.out.only (HOU.out.trans hS) (fun e => e))
            refine step_load_row rfl 23 (.tmp 3) rfl w.heap.size (eval_of r3) hb _ rfl Try.underlying23 (Try.size_params) ?_
            exact hK _ _ rfl trivial hS
          · intro L vs A' u hW hL0 hnd K' hK
            have hS := hW.wi.s
            have r4 : A'.tmps[4]? = some (.pointer (some ⟨W1.heap.size, 0, none⟩)) := (hW.out 4 (fun j hj => fr_R j 4 hj (by kernel_rfl))).trans rfl
            have hb := (HB2.out.only (HOU.out.trans hS) (fun e => e))
            refine step_load_row rfl 24 (.tmp 4) rfl W1.heap.size (eval_of r4) hb _ rfl Try.underlying24 (by rw [HS16.out]; exact Try.size_sum) ?_
            exact hK _ _ rfl trivial hS
          · intro L vs A' u hW hL0 hnd K' hK
            have hS := hW.wi.s
            have r2 : A'.tmps[2]? = some (.slice A l.length cc) := (hW.out 2 (fun j hj => fr_R j 2 hj (by kernel_rfl))).trans rfl
            go_simp
            exact hK _ _ (by first | rfl | (show _ = _; simp)) trivial (hS)
          · intro L vs A' u hW hL0 hnd K' hK
            have hS := hW.wi.s
            have r40 : A'.tmps[40]? = some (.agg #[iv r, iv c, iv d]) := by
              obtain ⟨x, e, h⟩ := hW.tel 0 40 (by decide) (hnd 0 (by kernel_rfl)) rfl
              rw [e]; exact congrArg some h
            have r41 : A'.tmps[41]? = some (.agg S) := by
              obtain ⟨x, e, h⟩ := hW.tel 1 41 (by decide) (hnd 1 (by kernel_rfl)) rfl
              rw [e]; exact congrArg some h
            have r42 : A'.tmps[42]? = some (.slice A l.length cc) := by
              obtain ⟨x, e, h⟩ := hW.tel 2 42 (by decide) (hnd 2 (by kernel_rfl)) rfl
              rw [e]; exact congrArg some h
            have HCL := Lib.hid (HOf.out u (HOU.out.trans hS))
            go_simp
            refine (HCL.out).mono ?_
            rintro _ u' ⟨rfl, ho2⟩
            exact hK _ _ rfl trivial (hS.trans ho2)
          · intro L vs A' u hW hL0 hnd K' hK
            have hS := hW.wi.s
            have r3 : A'.tmps[3]? = some (.pointer (some ⟨w.heap.size, 0, none⟩)) := (hW.out 3 (fun j hj => fr_R j 3 hj (by kernel_rfl))).trans rfl
            have hb := (HB1.out.only (HOU.out.trans hS) (fun e => e))
            refine step_load_row rfl 23 (.tmp 3) rfl w.heap.size (eval_of r3) hb _ rfl Try.underlying23 (Try.size_params) ?_
            exact hK _ _ rfl trivial hS
          · intro L vs A' u hW hL0 hnd K' hK
            have hS := hW.wi.s
            have r10 : A'.tmps[10]? = some (.pointer (some ⟨w3.heap.size, 0, none⟩)) := (hW.out 10 (fun j hj => fr_R j 10 hj (by kernel_rfl))).trans rfl
            go_simp
            exact hK _ _ (by first | rfl | (show _ = _; simp)) trivial (hS)
          · intro L vs A' u hW hL0 hnd K' hK
            have hS := hW.wi.s
            have r45 : A'.tmps[45]? = some (.pointer (some ⟨w3.heap.size, 0, none⟩)) := by
              obtain ⟨x, e, h⟩ := hW.tel 5 45 (by decide) (hnd 5 (by kernel_rfl)) rfl
              rw [e]; exact congrArg some h
            have hc := (HB10.out.only hS (fun e => e)).cell 0
            simp only [List.getElem?_toArray, List.getElem?_cons_zero] at hc
            go_simp
            exact hK _ _ (by first | rfl | (show _ = _; simp)) trivial (hS)
          · intro L vs A' u hW hL0 hnd K' hK
            have hS := hW.wi.s
            have r10 : A'.tmps[10]? = some (.pointer (some ⟨w3.heap.size, 0, none⟩)) := (hW.out 10 (fun j hj => fr_R j 10 hj (by kernel_rfl))).trans rfl
            go_simp
            exact hK _ _ (by first | rfl | (show _ = _; simp)) trivial (hS)
          · intro L vs A' u hW hL0 hnd K' hK
            have hS := hW.wi.s
            have r47 : A'.tmps[47]? = some (.pointer (some ⟨w3.heap.size, 1, none⟩)) := by
              obtain ⟨x, e, h⟩ := hW.tel 7 47 (by decide) (hnd 7 (by kernel_rfl)) rfl
              rw [e]; exact congrArg some h
            have hc := (HB10.out.only hS (fun e => e)).cell 1
            simp only [List.getElem?_toArray, List.getElem?_cons_zero, List.getElem?_cons_succ] at hc
            go_simp
            exact hK _ _ (by first | rfl | (show _ = _; simp)) trivial (hS)
          · intro L vs A' u hW hL0 hnd K' hK
            have hS := hW.wi.s
            have r10 : A'.tmps[10]? = some (.pointer (some ⟨w3.heap.size, 0, none⟩)) := (hW.out 10 (fun j hj => fr_R j 10 hj (by kernel_rfl))).trans rfl
            go_simp
            exact hK _ _ (by first | rfl | (show _ = _; simp)) trivial (hS)
          · intro L vs A' u hW hL0 hnd K' hK
            have hS := hW.wi.s
            have r49 : A'.tmps[49]? = some (.pointer (some ⟨w3.heap.size, 2, none⟩)) := by
              obtain ⟨x, e, h⟩ := hW.tel 9 49 (by decide) (hnd 9 (by kernel_rfl)) rfl
              rw [e]; exact congrArg some h
            have hc := (HB10.out.only hS (fun e => e)).cell 2
            simp only [List.getElem?_toArray, List.getElem?_cons_zero, List.getElem?_cons_succ] at hc
            go_simp
            exact hK _ _ (by first | rfl | (show _ = _; simp)) trivial (hS)
          · intro L vs A' u hW hL0 hnd K' hK
            have hS := hW.wi.s
            have r10 : A'.tmps[10]? = some (.pointer (some ⟨w3.heap.size, 0, none⟩)) := (hW.out 10 (fun j hj => fr_R j 10 hj (by kernel_rfl))).trans rfl
            go_simp
            exact hK _ _ (by first | rfl | (show _ = _; simp)) trivial (hS)
          · intro L vs A' u hW hL0 hnd K' hK
            have hS := hW.wi.s
            have r51 : A'.tmps[51]? = some (.pointer (some ⟨w3.heap.size, 3, none⟩)) := by
              obtain ⟨x, e, h⟩ := hW.tel 11 51 (by decide) (hnd 11 (by kernel_rfl)) rfl
              rw [e]; exact congrArg some h
            have hc := (HB10.out.only hS (fun e => e)).cell 3
            simp only [List.getElem?_toArray, List.getElem?_cons_zero, List.getElem?_cons_succ] at hc
            go_simp
            exact hK _ _ (by first | rfl | (show _ = _; simp)) trivial (hS)
          · intro L vs A' u hW hL0 hnd K' hK
            have hS := hW.wi.s
            have r10 : A'.tmps[10]? = some (.pointer (some ⟨w3.heap.size, 0, none⟩)) := (hW.out 10 (fun j hj => fr_R j 10 hj (by kernel_rfl))).trans rfl
            go_simp
            exact hK _ _ (by first | rfl | (show _ = _; simp)) trivial (hS)
          · intro L vs A' u hW hL0 hnd K' hK
            have hS := hW.wi.s
            have r53 : A'.tmps[53]? = some (.pointer (some ⟨w3.heap.size, 4, none⟩)) := by
              obtain ⟨x, e, h⟩ := hW.tel 13 53 (by decide) (hnd 13 (by kernel_rfl)) rfl
              rw [e]; exact congrArg some h
            have hc := (HB10.out.only hS (fun e => e)).cell 4
            simp only [List.getElem?_toArray, List.getElem?_cons_zero, List.getElem?_cons_succ] at hc
            go_simp
            exact hK _ _ (by first | rfl | (show _ = _; simp)) trivial (hS)
          · intro L vs A' u hW hL0 hnd K' hK
            have hS := hW.wi.s
            have r4 : A'.tmps[4]? = some (.pointer (some ⟨W1.heap.size, 0, none⟩)) := (hW.out 4 (fun j hj => fr_R j 4 hj (by kernel_rfl))).trans rfl
            have hb := (HB2.out.only (HOU.out.trans hS) (fun e => e))
            refine step_load_row rfl 24 (.tmp 4) rfl W1.heap.size (eval_of r4) hb _ rfl Try.underlying24 (by rw [HS16.out]; exact Try.size_sum) ?_
            exact hK _ _ rfl trivial hS
          · intro L vs A' u hW hL0 hnd K' hK
            have hS := hW.wi.s
            have r44 : A'.tmps[44]? = some (.agg #[iv r, iv c, iv d]) := by
              obtain ⟨x, e, h⟩ := hW.tel 4 44 (by decide) (hnd 4 (by kernel_rfl)) rfl
              rw [e]; exact congrArg some h
            have r46 : A'.tmps[46]? = some (iv X.mb) := by
              obtain ⟨x, e, h⟩ := hW.tel 6 46 (by decide) (hnd 6 (by kernel_rfl)) rfl
              rw [e]; exact congrArg some h
            have r48 : A'.tmps[48]? = some (iv X.xb) := by
              obtain ⟨x, e, h⟩ := hW.tel 8 48 (by decide) (hnd 8 (by kernel_rfl)) rfl
              rw [e]; exact congrArg some h
            have r50 : A'.tmps[50]? = some (iv X.mf) := by
              obtain ⟨x, e, h⟩ := hW.tel 10 50 (by decide) (hnd 10 (by kernel_rfl)) rfl
              rw [e]; exact congrArg some h
            have r52 : A'.tmps[52]? = some (iv X.xf) := by
              obtain ⟨x, e, h⟩ := hW.tel 12 52 (by decide) (hnd 12 (by kernel_rfl)) rfl
              rw [e]; exact congrArg some h
            have r54 : A'.tmps[54]? = some (iv X.t) := by
              obtain ⟨x, e, h⟩ := hW.tel 14 54 (by decide) (hnd 14 (by kernel_rfl)) rfl
              rw [e]; exact congrArg some h
            have r55 : A'.tmps[55]? = some (.agg S) := by
              obtain ⟨x, e, h⟩ := hW.tel 15 55 (by decide) (hnd 15 (by kernel_rfl)) rfl
              rw [e]; exact congrArg some h
            refine step_build_is rfl _ _ rfl (nfc X) (by simp [Act.eval, r44, r46, r48, r50, r52, r54, r55]; exact HBt.out) ?_
            exact hK _ _ rfl trivial hS
          · intro L vs A' u hW hL0 hnd K' hK
            have hS := hW.wi.s
            have r43 : A'.tmps[43]? = some (.agg (nfc X)) := by
              obtain ⟨x, e, h⟩ := hW.tel 3 43 (by decide) (hnd 3 (by kernel_rfl)) rfl
              rw [e]; exact congrArg some h
            have r56 : A'.tmps[56]? = some (.agg (nfc X)) := by
              obtain ⟨x, e, h⟩ := hW.tel 16 56 (by decide) (hnd 16 (by kernel_rfl)) rfl
              rw [e]; exact congrArg some h
            have he := HE.out
            have hg := guard_info
            go_simp
            exact hK _ _ (by first | rfl | (show _ = _; simp)) trivial (hS)
          · intro L vs A' u hW hL0 hnd K' hK
            have hS := hW.wi.s
            have r57 : A'.tmps[57]? = some (.bool true) := by
              obtain ⟨x, e, h⟩ := hW.tel 17 57 (by decide) (hnd 17 (by kernel_rfl)) rfl
              rw [e]; exact congrArg some h
            go_simp
            exact hK _ _ (by first | rfl | (show _ = _; simp)) trivial (hS)
          · intro L vs A' u hW hL0 hnd K' hK
            have hS := hW.wi.s
            have r58 : A'.tmps[58]? = some (.bool true) := by
              obtain ⟨x, e, h⟩ := hW.tel 18 58 (by decide) (hnd 18 (by kernel_rfl)) rfl
              rw [e]; exact congrArg some h
            rw [if_pos (wanted_yes (j := 18) (s := 58) (b := true) rfl (by kernel_rfl) r58)]
            have HCL := Lib.hid (HAw.out u)
            go_simp
            refine (HCL.out).mono ?_
            rintro _ u' ⟨rfl, ho2⟩
            exact hK _ _ rfl trivial (hS.trans ho2)
          · intro L vs A' u hW hL0 hnd K' hK
            have hS := hW.wi.s
            have r58 : A'.tmps[58]? = some (.bool true) := by
              obtain ⟨x, e, h⟩ := hW.tel 18 58 (by decide) (hnd 18 (by kernel_rfl)) rfl
              rw [e]; exact congrArg some h
            have r59 : A'.tmps[59]? = some (.bool true) := by
              obtain ⟨x, e, h⟩ := hW.tel 19 59 (by decide) (hnd 19 (by kernel_rfl)) rfl
              rw [e]; exact congrArg some h
            go_simp
            exact hK _ _ (by first | rfl | (show _ = _; simp)) trivial (hS)
          · intro L vs A' u hW hL0 hnd K' hK
            have hS := hW.wi.s
            have r60 : A'.tmps[60]? = some (.bool true) := by
              obtain ⟨x, e, h⟩ := hW.tel 20 60 (by decide) (hnd 20 (by kernel_rfl)) rfl
              rw [e]; exact congrArg some h
            go_simp
            exact hK _ _ (by first | rfl | (show _ = _; simp)) trivial (hS)
        case doneR =>
          intro L vs u9 hS hP hall
          have e0 : vs 0 = .agg #[iv r, iv c, iv d] := hP 0 (by decide)
          have e1 : vs 1 = .agg S := hP 1 (by decide)
          have e2 : vs 2 = .slice A l.length cc := hP 2 (by decide)
          have e3 : vs 3 = .agg (nfc X) := hP 3 (by decide)
          have e4 : vs 4 = .agg #[iv r, iv c, iv d] := hP 4 (by decide)
          have e5 : vs 5 = .pointer (some ⟨w3.heap.size, 0, none⟩) := hP 5 (by decide)
          have e6 : vs 6 = iv X.mb := hP 6 (by decide)
          have e7 : vs 7 = .pointer (some ⟨w3.heap.size, 1, none⟩) := hP 7 (by decide)
          have e8 : vs 8 = iv X.xb := hP 8 (by decide)
          have e9 : vs 9 = .pointer (some ⟨w3.heap.size, 2, none⟩) := hP 9 (by decide)
          have e10 : vs 10 = iv X.mf := hP 10 (by decide)
          have e11 : vs 11 = .pointer (some ⟨w3.heap.size, 3, none⟩) := hP 11 (by decide)
          have e12 : vs 12 = iv X.xf := hP 12 (by decide)
          have e13 : vs 13 = .pointer (some ⟨w3.heap.size, 4, none⟩) := hP 13 (by decide)
          have e14 : vs 14 = iv X.t := hP 14 (by decide)
          have e15 : vs 15 = .agg S := hP 15 (by decide)
          have e16 : vs 16 = .agg (nfc X) := hP 16 (by decide)
          have e17 : vs 17 = .bool true := hP 17 (by decide)
          have e18 : vs 18 = .bool true := hP 18 (by decide)
          have e19 : vs 19 = .bool true := hP 19 (by decide)
          have e20 : vs 20 = .bool true := hP 20 (by decide)
          have e21 : vs 21 = .bool true := hP 21 (by decide)
          simp only [putV, List.foldl_cons, List.foldl_nil, List.setIfInBounds_toArray, List.set_cons_zero, List.set_cons_succ, e0, e1, e2, e3, e4, e5, e6, e7, e8, e9, e10, e11, e12, e13, e14, e15, e16, e17, e18, e19, e20, e21]
          have XS := Lib.hid hS
          clear e0 e1 e2 e3 e4 e5 e6 e7 e8 e9 e10 e11 e12 e13 e14 e15 e16 e17 e18 e19 e20 e21 hP hall fr_R hS
          go_wp2
          go_ret
          exact ⟨rfl, HO2.out.trans (HOU.out.trans XS.out)⟩
  · rw [decide_eq_false hfew] at HFw
    have HA2 := Lib.hid (HAw.out W2)
    rw [hS]
    clear a1 a2 b1 b2 hv hs hS hfew
    go_enter Try.func6, Try.ntmps6
    go_wp2_with fail
    refine (HFw.out).mono ?_
    rintro e w2 ⟨rfl, rfl⟩
    go_wp2_with fail
    refine (HA2.out).mono ?_
    rintro e w3 ⟨rfl, o3⟩
    have HO3 := Lib.hid (HO2.out.trans o3)
    clear o3
    go_wp2
    go_ret
    exact ⟨rfl, HO3.out⟩
end Go.Proofs.Ytllpeknjnhdbmaa
