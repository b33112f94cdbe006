/-
  Package subframe: Read.
-/
import Derived.Test.YteklfkpeaadinaaGreatDoorPBS17
namespace Go.Proofs.YteklfkpeaadinaaGreatDoor.S
open Go.RowKit Go.Shelf
open K (linV rstV region_gho andV notYet)
/-- what Read answers -/
def SrR (w : World) (r : Nat) (v : Value) (bs : List Nat) (a b d : Nat) (e : Ending) (w' : World) : Prop :=
  (∃ E : Int, e = .returned (.tuple #[.slice none 0 0, zP, iv E]) ∧ (E = 10 ∨ E = 11 ∨ E = 12 ∨ E = 13) ∧ Rd w' r v bs a ∧ Only (Just r) w w' ∧ ∀ k o wd lp ls cs m ro ps ws xs a', ¬ ChOk bs a b d k o wd lp ls cs m ro ps ws xs a') ∨
  (∃ (k o wd : Nat) (lp ls : Int) (cs : List Int) (m ro : Int) (ps ws xs : List Int) (a' : Nat) (A Ac Ap Ab : Option Addr) (n c nc cc np cp nb cb : Nat), e = .returned (.tuple #[.slice A n c, spV k o wd lp ls (.slice Ac nc cc) m ro (.slice Ap np cp) (.slice Ab nb cb), iv 0]) ∧
    ChOk bs a b d k o wd lp ls cs m ro ps ws xs a' ∧ ISb w' (.slice A n c) xs ∧ ISb w' (.slice Ac nc cc) cs ∧ ISb w' (.slice Ap np cp) ps ∧ ISb w' (.slice Ab nb cb) ws ∧ Rd w' r v bs a' ∧ Only (Just r) w w')
set_option maxRecDepth 100000 in
set_option maxHeartbeats 4000000 in
theorem sread_any {w : World} {r : Nat} {v : Value} {bs : List Nat} {a : Nat} (hR : Rd w r v bs a) (hLd : ∀ u, Only (Just r) w u → Laid u) (b d : Nat) (hb0 : 1 ≤ b) (hb : b ≤ 1000) (hd4 : 4 ≤ d) (hd : d ≤ 33) :
    Calls Tryz.prog 15 #[.pointer (some ⟨r, 0, none⟩), iv b, iv d] w fun e w' => SrR w r v bs a b d e w' := by
  have hrw := hR.mem
  obtain ⟨Wa, hWa⟩ : ∃ Wa, w.alloc (.cells zC 28) = Wa := ⟨_, rfl⟩
  have a0 := (Only.refl Nix w).alloc (.cells zC 28)
  have bq := Box.new w 28 zC
  rw [hWa] at a0 bq
  have hnq : w.heap.size ≠ r := by omega
  have HCk := Lib.hid (checkBlock_any Wa b d)
  have hck : ckBlk b d = 0 := by unfold ckBlk; rw [if_neg (by omega)]
  rw [hck] at HCk
  have hR0 := hR.nix a0
  have HAt := Lib.hid (at_any r a Wa hR0.cell0)
  have HCh := Lib.hid (channel_any hR0 (fun u hu => hLd u (a0.nix.trans hu)) b d hb0 hb hd4 hd)
  have HA := Lib.hid a0
  have HBq := Lib.hid bq
  have hal := hR.le
  clear a0 bq hR hR0 hLd hck
  go_enter Tryz.func15, Tryz.ntmps15
  go_wp2_with fail
  refine (HCk.out).mono ?_
  rintro e w1 ⟨rfl, rfl⟩
  go_wp2_with fail
  refine (HAt.out).mono ?_
  rintro e w1 ⟨rfl, rfl⟩
  go_wp2_with fail
  refine (HCh.out).mono ?_
  rintro e w1 (⟨va, cells, E, a', rfl, hcs, hone, hE, hR1, o1, hno⟩ | ⟨k, o, wd, lp, ls, cs, m, ro, ps, ws, xs, a', A, Ac, Ap, Ab, n, c, nc, cc, np, cp, nb, cb, rfl, hok, s1, s2, s3, s4, hR1, o1⟩)
  · have HBq1 := Lib.hid (HBq.out.only o1 (fun e => hnq e))
    have HR1 := Lib.hid hR1
    have HO1 := Lib.hid ((HA.out.nix (F := Just r)).trans o1)
    have HNo := Lib.hid hno
    have HE := Lib.hid hE
    have hE0 : (E != 0) = true := by rcases hE with rfl | rfl | rfl | rfl <;> rfl
    have hcsz : (Tryz.prog.info? 28).map (·.size) = some cells.size := by rw [hcs]; exact Tryz.size_plan
    have hcs2 : zC.size = cells.size := by rw [hcs]; rfl
    clear hR1 o1 hno hE HCh HAt HCk
    go_wp2_with (refine wpList_store_row rfl 28 (.tmp 12) (.tmp 33) rfl rfl w1.heap.size 28 zC (cells) rfl rfl (Box.new w1 _ _) hcsz hcs2 hone ?st)
    case st =>
      intro w2 hb2 ho2
      have o12 : Only Nix w1 w2 := ((Only.refl Nix w1).alloc _).then ho2 (fun i e => .inr (by cases e; exact Nat.le_refl _))
      have HBq2 := Lib.hid (HBq1.out.only o12 (fun e => e))
      have HR2 := Lib.hid (HR1.out.nix o12)
      have HO2 := Lib.hid (HO1.out.trans o12.nix)
      have HSk := Lib.hid (seek_any HR2.out (a : Int))
      have eA : seekA bs a' (a : Int) = a := by unfold seekA; rw [if_neg (by omega), Int.toNat_natCast]
      have eE : seekE bs (a : Int) = 0 := by unfold seekE; rw [if_neg (by omega)]
      rw [eA, eE] at HSk
      clear hb2 ho2 o12 eA eE
      go_wp2_with fail
      refine (HSk.out).mono ?_
      rintro e w3 ⟨rfl, hR3, o3⟩
      have HBq3 := Lib.hid (HBq2.out.only o3 (fun e => hnq e))
      have HR3 := Lib.hid hR3
      have HO3 := Lib.hid (HO2.out.trans o3)
      clear hR3 o3 HSk
      go_wp2_with (refine wpList_store_row rfl 28 (.tmp 7) (.tmp 40) rfl rfl w.heap.size 28 zC zC rfl rfl HBq3.out Tryz.size_plan rfl (spC_one _ _ _ _ _ _ _ _ _ _ _ _ _ _ _ _) ?st)
      case st =>
        intro w4 hb4 ho4
        have Z1 := Lib.hid (rd_just HR3.out HBq3.out (by decide) hnq ho4)
        have Z2 := Lib.hid (only_just HO3.out ho4 (Nat.le_refl _))
        have y0 := hb4.cell 0
        have y1 := hb4.cell 1
        have y2 := hb4.cell 2
        have y3 := hb4.cell 3
        have y4 := hb4.cell 4
        have y5 := hb4.cell 5
        have y6 := hb4.cell 6
        have y7 := hb4.cell 7
        have y8 := hb4.cell 8
        have y9 := hb4.cell 9
        simp only [List.getElem?_toArray, List.getElem?_cons_zero, List.getElem?_cons_succ] at y0 y1 y2 y3 y4 y5 y6 y7 y8 y9
        clear hb4 ho4
        go_wp2
        refine bodyPost_ret (v := .tuple #[.slice none 0 0, zP, iv E]) ?_ rfl ?_
        · simp [results, Tryz.f15, go_sem, y0, y1, y2, y3, y4, y5, y6, y7, y8, y9]
        exact .inl ⟨E, rfl, HE.out, Z1.out, Z2.out, HNo.out⟩
  · have HBq1 := Lib.hid (HBq.out.only o1 (fun e => hnq e))
    have HR1 := Lib.hid hR1
    have HO1 := Lib.hid ((HA.out.nix (F := Just r)).trans o1)
    have HCk2 := Lib.hid hok
    have Hs1 := Lib.hid s1
    have Hs2 := Lib.hid s2
    have Hs3 := Lib.hid s3
    have Hs4 := Lib.hid s4
    clear hR1 o1 hok s1 s2 s3 s4 HCh HAt HCk
    go_wp2_with (refine wpList_store_row rfl 28 (.tmp 12) (.tmp 33) rfl rfl w1.heap.size 28 zC (spC k o wd lp ls (.slice Ac nc cc) m ro (.slice Ap np cp) (.slice Ab nb cb)) rfl rfl (Box.new w1 _ _) Tryz.size_plan rfl (spC_one _ _ _ _ _ _ _ _ _ _ _ _ _ _ _ _) ?st)
    case st =>
      intro w2 hb2 ho2
      have o12 : Only Nix w1 w2 := ((Only.refl Nix w1).alloc _).then ho2 (fun i e => .inr (by cases e; exact Nat.le_refl _))
      have HBq2 := Lib.hid (HBq1.out.only o12 (fun e => e))
      have HR2 := Lib.hid (HR1.out.nix o12)
      have HO2 := Lib.hid (HO1.out.trans o12.nix)
      have Hs1 := Lib.hid (Hs1.out.nix o12)
      have Hs2 := Lib.hid (Hs2.out.nix o12)
      have Hs3 := Lib.hid (Hs3.out.nix o12)
      have Hs4 := Lib.hid (Hs4.out.nix o12)
      have p0 := hb2.cell 0
      have p1 := hb2.cell 1
      have p2 := hb2.cell 2
      have p3 := hb2.cell 3
      have p4 := hb2.cell 4
      have p5 := hb2.cell 5
      have p6 := hb2.cell 6
      have p7 := hb2.cell 7
      have p8 := hb2.cell 8
      have p9 := hb2.cell 9
      simp only [List.getElem?_toArray, List.getElem?_cons_zero, List.getElem?_cons_succ] at p0 p1 p2 p3 p4 p5 p6 p7 p8 p9
      clear hb2 ho2 o12
      go_wp2_with fail
      have noOutX : ∀ j s, j < 5 → (([some 42, some 43, some 6, none, some 8] : List (Option Nat)).all fun d => d != some s) = true → ([some 42, some 43, some 6, none, some 8] : List (Option Nat)).getD j none ≠ some s := by
        intro j s hj ha e
        rw [List.getD_eq_getElem?_getD, List.getElem?_eq_getElem (by exact hj), Option.getD_some] at e
        have := List.all_eq_true.1 ha _ (List.getElem_mem (by exact hj))
        rw [e] at this
        simp at this
      refine region_val (by kernel_rfl) (fun k0 => ([some 42, some 43, some 6, none, some 8] : List (Option Nat)).getD k0 none) (fun k0 => ([(.slice A n c), (.agg (spC k o wd lp ls (.slice Ac nc cc) m ro (.slice Ap np cp) (.slice Ab nb cb))), (.slice A n c), (undef), (iv 0)] : List Value).getD k0 undef) (CaW 3 w2 (fun u => Box u w.heap.size 28 (spC k o wd lp ls (.slice Ac nc cc) m ro (.slice Ap np cp) (.slice Ab nb cb)) ∧ Only (Just w.heap.size) w2 u)) 44 5 rfl (by kernel_rfl) (by kernel_rfl) rfl (by kernel_rfl) (by kernel_rfl) ⟨fun _ => ⟨1, rfl⟩, fun e => by cases e⟩ ?stepsX [(42, .slice A n c), (43, .agg (spC k o wd lp ls (.slice Ac nc cc) m ro (.slice Ap np cp) (.slice Ab nb cb))), (6, .slice A n c), (8, iv 0)] rfl ?doneX
      case stepsX =>
        refine ⟨?_, ?_, ?_, ?_, ?_, trivial⟩
        · intro L A' u hW hL0 hnd K' hK
          have r11 : A'.tmps[11]? = some (.slice A n c) := (hW.out 11 (fun j hj => noOutX j 11 hj (by kernel_rfl))).trans rfl
          go_simp
          exact hK _ (hW.wi.same (by decide))
        · intro L A' u hW hL0 hnd K' hK
          have r12 : A'.tmps[12]? = some (.pointer (some ⟨w1.heap.size, 0, none⟩)) := (hW.out 12 (fun j hj => noOutX j 12 hj (by kernel_rfl))).trans rfl
          have n3 : L 3 = false := notYet hW.closed (j := 3) (by rfl) (k := 1) (by kernel_rfl) hL0
          obtain ⟨kk, rfl⟩ := hW.wi.no n3
          go_simp
          exact hK _ (hW.wi.same (by decide))
        · intro L A' u hW hL0 hnd K' hK
          have r42 : A'.tmps[42]? = some (.slice A n c) := hW.val 0 42 (by decide) (hnd 0 (by kernel_rfl)) rfl
          go_simp
          exact hK _ (hW.wi.same (by decide))
        · intro L A' u hW hL0 hnd K' hK
          have r7 : A'.tmps[7]? = some (.pointer (some ⟨w.heap.size, 0, none⟩)) := (hW.out 7 (fun j hj => noOutX j 7 hj (by kernel_rfl))).trans rfl
          have r43 : A'.tmps[43]? = some (.agg (spC k o wd lp ls (.slice Ac nc cc) m ro (.slice Ap np cp) (.slice Ab nb cb))) := hW.val 1 43 (by decide) (hnd 1 (by kernel_rfl)) rfl
          obtain ⟨kk, rfl⟩ := hW.wi.no hL0
          refine step_store_row rfl 28 (.tmp 7) (.tmp 43) rfl rfl w.heap.size 28 zC (spC k o wd lp ls (.slice Ac nc cc) m ro (.slice Ap np cp) (.slice Ab nb cb)) (by simp [Act.eval, r7]) (by simp [Act.eval, r43]) (HBq2.out.drewN kk) Tryz.size_plan rfl (spC_one _ _ _ _ _ _ _ _ _ _ _ _ _ _ _ _) ?_
          intro u' hb' ho'
          exact hK _ (CaW.made ⟨hb', ⟨ho'.os, ho'.tape, ho'.output, ho'.size, ho'.block⟩⟩)
        · intro L A' u hW hL0 hnd K' hK
          go_simp
          exact hK _ (hW.wi.same (by decide))
      case doneX =>
        intro L u hWI hall
        obtain ⟨hB4, ho4⟩ := hWI.yes (hall 3 (by decide))
        clear hWI hall noOutX
        have Z1 := Lib.hid (rd_just HR2.out HBq2.out (by decide) hnq ho4)
        have Z2 := Lib.hid (only_just HO2.out ho4 (Nat.le_refl _))
        have Z3 := Lib.hid (Hs1.out.only HBq2.out (by decide) ho4)
        have Z4 := Lib.hid (Hs2.out.only HBq2.out (by decide) ho4)
        have Z5 := Lib.hid (Hs3.out.only HBq2.out (by decide) ho4)
        have Z6 := Lib.hid (Hs4.out.only HBq2.out (by decide) ho4)
        have y0 := hB4.cell 0
        have y1 := hB4.cell 1
        have y2 := hB4.cell 2
        have y3 := hB4.cell 3
        have y4 := hB4.cell 4
        have y5 := hB4.cell 5
        have y6 := hB4.cell 6
        have y7 := hB4.cell 7
        have y8 := hB4.cell 8
        have y9 := hB4.cell 9
        simp only [List.getElem?_toArray, List.getElem?_cons_zero, List.getElem?_cons_succ] at y0 y1 y2 y3 y4 y5 y6 y7 y8 y9
        clear hB4 ho4
        simp only [putV, List.foldl_cons, List.foldl_nil, List.setIfInBounds_toArray, List.set_cons_zero, List.set_cons_succ]
        go_wp2
        refine bodyPost_ret (v := .tuple #[.slice A n c, (spV k o wd lp ls (.slice Ac nc cc) m ro (.slice Ap np cp) (.slice Ab nb cb)), iv 0]) ?_ rfl ?_
        · simp [results, Tryz.f15, go_sem, y0, y1, y2, y3, y4, y5, y6, y7, y8, y9]
        exact .inr ⟨k, o, wd, lp, ls, cs, m, ro, ps, ws, xs, a', A, Ac, Ap, Ab, n, c, nc, cc, np, cp, nb, cb, rfl, HCk2.out, Z3.out, Z4.out, Z5.out, Z6.out, Z1.out, Z2.out⟩
end Go.Proofs.YteklfkpeaadinaaGreatDoor.S
