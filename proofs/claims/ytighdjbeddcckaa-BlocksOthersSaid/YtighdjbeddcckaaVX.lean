/-
  Zeros and Name, and BlocksOthers: their walks.
-/
import Derived.Test.YtighdjbeddcckaaVJ
import Derived.Laws.BytesArg
import Derived.OwnWalk
namespace Go.Proofs.Ytighdjbeddcckaa
open Go.RowKit Go.Shelf

theorem eval_of' {A : Act} {s : Nat} {v : Value} (h : A.tmps[s]? = some v) : A.eval (.tmp s) = v := by
  show A.tmps.getD s undef = v
  rw [Array.getD_eq_getD_getElem?, h]; rfl
theorem add_four (a : Addr) : a.add 4 = ⟨a.block, a.off + 4, none⟩ := by unfold Addr.add; rw [if_neg (by decide)]
/-- bytes as a text -/
def strN (bs : List Nat) : ByteArray := strOfNums (bs.map fun (x : Nat) => (x : Int))
theorem conv_src {u : World} {ad : Addr} {n c : Nat} {bs : List Nat} (h : Src u (.slice (some ad) n c) bs) : (convert 22 9 (.slice (some ad) n c)).run Try.prog u = .ok (.string (strN bs)) u := by
  have hn := h.len
  have hl : (loadCells ad n).run Try.prog u = .ok ((bs.map fun (x : Nat) => (x : Int)).map (Value.int .u8)).toArray u := by
    have := run_loadCells_list (P := Try.prog) u ad ((bs.map fun (x : Nat) => (x : Int)).map (Value.int .u8)) (fun j v hj => by
      rw [List.map_map, List.getElem?_map] at hj
      obtain ⟨x, hx, rfl⟩ := Option.map_eq_some_iff.1 hj
      obtain ⟨hjl, rfl⟩ := List.getElem?_eq_some_iff.1 hx
      obtain ⟨ad', e, hc⟩ := h.at_ hjl
      injection e with e
      subst e
      exact hc)
    simpa [hn] using this
  rw [run_convert_bytes_string u _ _ _ _ n c Try.underlying22 Try.underlying5 (by kernel_rfl), run_bytesToString u _ n c _ hl, foldl_push_bytes]
  simp [strN, strOfNums, ByteArray.empty, ByteArray.emptyWithCapacity]
  rfl
set_option maxHeartbeats 2000000 in
theorem zeros_no {w : World} (n : Int) (hn : n < 0 ∨ 16777215 < n) : Calls Try.prog 25 #[iv n] w fun e w' => e = .returned (.tuple #[.agg #[iv 0, .slice none 0 0], iv 10]) ∧ Only Nix w w' := by
  have a1 := (Only.refl Nix w).alloc (.cells #[iv 0, .slice none 0 0] 59)
  have b1 := Box.new w 59 #[iv 0, .slice none 0 0]
  obtain ⟨W1, hW1⟩ : ∃ W1, w.alloc (.cells #[iv 0, .slice none 0 0] 59) = W1 := ⟨_, rfl⟩
  rw [hW1] at a1 b1
  have c0 := b1.cell 0
  have c1 := b1.cell 1
  have z0 := b1.frozen 0
  have z1 := b1.frozen 1
  simp only [List.getElem?_toArray, List.getElem?_cons_zero, List.getElem?_cons_succ] at c0 c1
  have hBF := Lib.hid (box_two b1 (iv 0) (.slice none 0 0))
  have hFO := Lib.hid ((a1.setCell (p := ⟨w.heap.size, 0, none⟩) (.inr (Nat.le_refl _)) (iv 0)).setCell (p := ⟨w.heap.size, 1, none⟩) (.inr (Nat.le_refl _)) (.slice none 0 0))
  clear a1 b1
  rcases hn with hn | hn
  · go_enter Try.func25, Try.ntmps25
    go_wp2
    exact bodyPost_ret (v := .tuple #[.agg #[iv 0, .slice none 0 0], iv 10]) (results_block rfl _ _ w.heap.size _ _ _ rfl hBF.out rfl) rfl ⟨rfl, hFO.out⟩
  · have h0 : ¬ n < 0 := by omega
    go_enter Try.func25, Try.ntmps25
    go_wp2
    exact bodyPost_ret (v := .tuple #[.agg #[iv 0, .slice none 0 0], iv 10]) (results_block rfl _ _ w.heap.size _ _ _ rfl hBF.out rfl) rfl ⟨rfl, hFO.out⟩
/-- what Name answers -/
def NmR (w : World) (t : Int) (bs : List Nat) (e : Ending) (w' : World) : Prop :=
  (if t = 2 then (if bs.length < 4 then e = .returned (.tuple #[.string ⟨#[]⟩, .slice none 0 0, iv 11]) else ∃ v, e = .returned (.tuple #[.string (strN (bs.take 4)), v, iv 0]) ∧ CSrc w' v (bs.drop 4)) else e = .returned (.tuple #[.string ⟨#[]⟩, .slice none 0 0, iv 13])) ∧ Only Nix w w'
theorem drop_four {w : World} {ad : Addr} {n d : Nat} {bs : List Nat} (h : CSrc w (.slice (some ad) n d) bs) (h4 : 4 ≤ n) : ∃ A', (4 = d → A' = some ad) ∧ (¬ 4 = d → A' = some (ad.add 4)) ∧ CSrc w (.slice A' (n - 4) (d - 4)) (bs.drop 4) := by
  have hl := h.src.len
  have hc := h.cap _ _ _ rfl
  by_cases e : 4 = d
  · refine ⟨some ad, fun _ => rfl, fun h => absurd e h, ?_⟩
    have h0 : bs.drop 4 = [] := List.eq_nil_of_length_eq_zero (by rw [List.length_drop]; omega)
    rw [h0, show n - 4 = 0 by omega, show d - 4 = 0 by omega]
    exact ⟨⟨⟨_, 0, rfl, fun j hj => absurd hj (by simp)⟩, by simp, by simp⟩, fun _ _ _ e => by injection e with _ e2 e3; omega⟩
  · refine ⟨some (ad.add 4), fun h => absurd h e, fun _ => rfl, h.src.drop 4 h4, fun _ _ _ e => by injection e with _ e2 e3; omega⟩
set_option maxRecDepth 100000 in
set_option maxHeartbeats 8000000 in
theorem name_any {w : World} {v0 : Value} {t : Int} {bs : List Nat} (hs : CSrc w v0 bs) (hn : bs.length ≤ 100000) : Calls Try.prog 26 #[.agg #[iv t, v0]] w fun e w' => NmR w t bs e w' := by
  obtain ⟨A, d, rfl, hd⟩ := hs.form
  have a1 := Lib.hid ((Only.refl Nix w).alloc (.cells #[iv t, .slice A bs.length d] 59))
  have b1 := Box.new w 59 #[iv t, .slice A bs.length d]
  have HS := Lib.hid (hs.nix a1.out)
  obtain ⟨W1, hW1⟩ : ∃ W1, w.alloc (.cells #[iv t, .slice A bs.length d] 59) = W1 := ⟨_, rfl⟩
  rw [hW1] at a1 b1 HS
  have c0 := b1.cell 0
  have c1 := b1.cell 1
  simp only [List.getElem?_toArray, List.getElem?_cons_zero, List.getElem?_cons_succ] at c0 c1
  clear b1 hs
  by_cases ht : t = 2
  · subst ht
    by_cases h4 : bs.length < 4
    · have HR : Hid (NmR w 2 bs (.returned (.tuple #[.string ⟨#[]⟩, .slice none 0 0, iv 11])) W1) := Lib.hid ⟨by rw [if_pos rfl, if_pos h4], a1.out⟩
      have h4i : (bs.length : Int) < 4 := by omega
      go_enter Try.func26, Try.ntmps26
      go_wp2
      refine bodyPost_ret (results_tmp3 rfl _ _ _) rfl ?_
      exact HR.out
    · have h4i : ¬ (bs.length : Int) < 4 := by omega
      obtain ⟨ad, rfl, _⟩ := HS.out.src.at_ (k := 0) (by omega)
      obtain ⟨A', k1, k2, hs4⟩ := drop_four HS.out (by omega)
      have HSt := Lib.hid (HS.out.src.take 4 d (by omega))
      have HS4 := Lib.hid hs4
      have HR : Hid (∀ v w', CSrc w' v (bs.drop 4) → Only Nix W1 w' → NmR w 2 bs (.returned (.tuple #[.string (strN (bs.take 4)), v, iv 0])) w') := Lib.hid (fun v w' h ho => ⟨by rw [if_pos rfl, if_neg h4]; exact ⟨v, rfl, h⟩, a1.out.trans ho⟩)
      have HCv : Hid (∀ u, Only Nix W1 u → (convert 22 9 (.slice (some ad) 4 d)).run Try.prog u = .ok (.string (strN (bs.take 4))) u) := Lib.hid (fun u hu => conv_src (HSt.out.nix hu))
      have HCl : Hid (∀ u, Only Nix W1 u → Calls Try.prog 28 #[.slice A' (bs.length - 4) (d - 4)] u fun e w' => ∃ v, e = .returned v ∧ CSrc w' v (bs.drop 4) ∧ Only Nix u w') := Lib.hid (fun u hu => (clone_any (HS4.out.nix hu) (by rw [List.length_drop]; omega)).mono (fun e w' h => by
        obtain ⟨v, h1, h2, _, h3⟩ := h
        exact ⟨v, h1, h2, h3⟩))
      have hd4 : (4 : Int) ≤ (d : Int) := by omega
      have hb4 : (4 : Int) ≤ (bs.length : Int) := by omega
      have hsub : (bs.length : Int) - 4 = ((bs.length - 4 : Nat) : Int) := by omega
      generalize bs.take 4 = B4 at *
      generalize bs.drop 4 = BD at *
      generalize strN B4 = S4 at *
      obtain ⟨N4, hN4⟩ : ∃ N, bs.length - 4 = N := ⟨_, rfl⟩
      obtain ⟨D4, hD4⟩ : ∃ N, d - 4 = N := ⟨_, rfl⟩
      have HN4 := Lib.hid hN4
      have HD4 := Lib.hid hD4
      rw [hN4] at HCl hsub HS4
      rw [hD4] at HCl HS4
      clear hs4 hN4 hD4
      by_cases e4 : 4 = d
      · obtain rfl := k1 e4
        subst e4
        clear k1 k2
        obtain rfl : D4 = 0 := by have := HD4.out; omega
        obtain rfl : N4 = 0 := by have := HN4.out; omega
        go_enter Try.func26, Try.ntmps26
        go_wp2_with fail
        have fr_A : ∀ j s, j < 11 → (([some 12, some 13, some 14, some 15, some 16, some 17, some 18, some 19, some 2, some 3, some 4] : List (Option Nat)).all fun d => d != some s) = true → ([some 12, some 13, some 14, some 15, some 16, some 17, some 18, some 19, some 2, some 3, some 4] : List (Option Nat)).getD j none ≠ some s := by
          intro j s hj ha e
          rw [List.getD_eq_getElem?_getD, List.getElem?_eq_getElem (by exact hj), Option.getD_some] at e
          have := List.all_eq_true.1 ha _ (List.getElem_mem (by exact hj))
          rw [e] at this
          simp at this
        refine region_tel (by kernel_rfl) (fun k0 => ([some 12, some 13, some 14, some 15, some 16, some 17, some 18, some 19, some 2, some 3, some 4] : List (Option Nat)).getD k0 none) (PL [eqP (.pointer (some ⟨w.heap.size, 1, none⟩)), eqP (.slice (some ad) bs.length 4), eqP (.slice (some ad) 4 4), eqP (.string S4), eqP (.pointer (some ⟨w.heap.size, 1, none⟩)), eqP (.slice (some ad) bs.length 4), eqP (.slice (some ad) 0 0), (fun v u => CSrc u v BD), eqP (.string S4), (fun v u => CSrc u v BD), eqP (iv 0)]) (Only Nix) (fun _ u => Only Nix W1 u) 20 11 rfl (by kernel_rfl) (by kernel_rfl) rfl (by kernel_rfl) (by kernel_rfl) (stab_all ⟨fun _ _ _ h _ => h, fun _ _ _ h _ => h, fun _ _ _ h _ => h, fun _ _ _ h _ => h, fun _ _ _ h _ => h, fun _ _ _ h _ => h, fun _ _ _ h _ => h, fun _ _ _ h hf => h.nix hf, fun _ _ _ h _ => h, fun _ _ _ h hf => h.nix hf, fun _ _ _ h _ => h, trivial⟩) ((Only.refl _ _).drew) ?stepsA (fun vs => [(12, vs 0), (13, vs 1), (14, vs 2), (15, vs 3), (16, vs 4), (17, vs 5), (18, vs 6), (19, vs 7), (2, vs 8), (3, vs 9), (4, vs 10)]) (fun vs => rfl) ?doneA
        case stepsA =>
          refine ⟨?_, ?_, ?_, ?_, ?_, ?_, ?_, ?_, ?_, ?_, ?_, trivial⟩
          · intro L vs A' u hW hL0 hnd K' hK
            have hS := hW.wi.s
            have r1 : A'.tmps[1]? = some (.pointer (some ⟨w.heap.size, 0, none⟩)) := (hW.out 1 (fun j hj => fr_A j 1 hj (by kernel_rfl))).trans rfl
            go_simp
            exact hK _ _ (by first | rfl | (show _ = _; simp)) (Only.refl Nix _) (hS)
          · intro L vs A' u hW hL0 hnd K' hK
            have hS := hW.wi.s
            have r12 : A'.tmps[12]? = some (.pointer (some ⟨w.heap.size, 1, none⟩)) := by
              obtain ⟨x, e, h⟩ := hW.tel 0 12 (by decide) (hnd 0 (by kernel_rfl)) rfl
              rw [e]; exact congrArg some h
            have c1u := cell_keep hS c1
            go_simp
            exact hK _ _ (by first | rfl | (show _ = _; simp)) (Only.refl Nix _) (hS)
          · intro L vs A' u hW hL0 hnd K' hK
            have hS := hW.wi.s
            have r13 : A'.tmps[13]? = some (.slice (some ad) bs.length 4) := by
              obtain ⟨x, e, h⟩ := hW.tel 1 13 (by decide) (hnd 1 (by kernel_rfl)) rfl
              rw [e]; exact congrArg some h
            go_simp
            exact hK _ _ (by first | rfl | (show _ = _; simp)) (Only.refl Nix _) (hS)
          · intro L vs A' u hW hL0 hnd K' hK
            have hS := hW.wi.s
            have r14 : A'.tmps[14]? = some (.slice (some ad) 4 4) := by
              obtain ⟨x, e, h⟩ := hW.tel 2 14 (by decide) (hnd 2 (by kernel_rfl)) rfl
              rw [e]; exact congrArg some h
            have hcv := HCv.out u hS
            go_simp
            exact hK _ _ (by first | rfl | (show _ = _; simp)) (Only.refl Nix _) (hS)
          · intro L vs A' u hW hL0 hnd K' hK
            have hS := hW.wi.s
            have r1 : A'.tmps[1]? = some (.pointer (some ⟨w.heap.size, 0, none⟩)) := (hW.out 1 (fun j hj => fr_A j 1 hj (by kernel_rfl))).trans rfl
            go_simp
            exact hK _ _ (by first | rfl | (show _ = _; simp)) (Only.refl Nix _) (hS)
          · intro L vs A' u hW hL0 hnd K' hK
            have hS := hW.wi.s
            have r16 : A'.tmps[16]? = some (.pointer (some ⟨w.heap.size, 1, none⟩)) := by
              obtain ⟨x, e, h⟩ := hW.tel 4 16 (by decide) (hnd 4 (by kernel_rfl)) rfl
              rw [e]; exact congrArg some h
            have c1u := cell_keep hS c1
            go_simp
            exact hK _ _ (by first | rfl | (show _ = _; simp)) (Only.refl Nix _) (hS)
          · intro L vs A' u hW hL0 hnd K' hK
            have hS := hW.wi.s
            have r17 : A'.tmps[17]? = some (.slice (some ad) bs.length 4) := by
              obtain ⟨x, e, h⟩ := hW.tel 5 17 (by decide) (hnd 5 (by kernel_rfl)) rfl
              rw [e]; exact congrArg some h
            go_simp
            exact hK _ _ (by first | rfl | (show _ = _; simp)) (Only.refl Nix _) (hS)
          · intro L vs A' u hW hL0 hnd K' hK
            have hS := hW.wi.s
            have r18 : A'.tmps[18]? = some (.slice (some ad) 0 0) := by
              obtain ⟨x, e, h⟩ := hW.tel 6 18 (by decide) (hnd 6 (by kernel_rfl)) rfl
              rw [e]; exact congrArg some h
            have HCL := Lib.hid (HCl.out u hS)
            go_simp
            refine (HCL.out).mono ?_
            rintro _ u' ⟨v, rfl, s, ho2⟩
            exact hK _ _ s ho2 (hS.trans ho2)
          · intro L vs A' u hW hL0 hnd K' hK
            have hS := hW.wi.s
            have r15 : A'.tmps[15]? = some (.string S4) := by
              obtain ⟨x, e, h⟩ := hW.tel 3 15 (by decide) (hnd 3 (by kernel_rfl)) rfl
              rw [e]; exact congrArg some h
            go_simp
            exact hK _ _ (by first | rfl | (show _ = _; simp)) (Only.refl Nix _) (hS)
          · intro L vs A' u hW hL0 hnd K' hK
            have hS := hW.wi.s
            obtain ⟨x, e19, h19⟩ := hW.tel 7 19 (by decide) (hnd 7 (by kernel_rfl)) rfl
            have h19' : CSrc u x BD := h19
            have r19 : A'.tmps[19]? = some x := e19
            clear e19 h19
            go_simp
            exact hK _ _ h19' (Only.refl Nix _) (hS)
          · intro L vs A' u hW hL0 hnd K' hK
            have hS := hW.wi.s
            go_simp
            exact hK _ _ (by first | rfl | (show _ = _; simp)) (Only.refl Nix _) (hS)
        case doneA =>
          intro L vs u9 hS hP hall
          have e0 : vs 0 = .pointer (some ⟨w.heap.size, 1, none⟩) := hP 0 (by decide)
          have e1 : vs 1 = .slice (some ad) bs.length 4 := hP 1 (by decide)
          have e2 : vs 2 = .slice (some ad) 4 4 := hP 2 (by decide)
          have e3 : vs 3 = .string S4 := hP 3 (by decide)
          have e4 : vs 4 = .pointer (some ⟨w.heap.size, 1, none⟩) := hP 4 (by decide)
          have e5 : vs 5 = .slice (some ad) bs.length 4 := hP 5 (by decide)
          have e6 : vs 6 = .slice (some ad) 0 0 := hP 6 (by decide)
          have e8 : vs 8 = .string S4 := hP 8 (by decide)
          have e10 : vs 10 = iv 0 := hP 10 (by decide)
          simp only [putV, List.foldl_cons, List.foldl_nil, List.setIfInBounds_toArray, List.set_cons_zero, List.set_cons_succ, e0, e1, e2, e3, e4, e5, e6, e8, e10]
          have h9 : CSrc u9 (vs 9) BD := hP 9 (by decide)
          clear e0 e1 e2 e3 e4 e5 e6 e8 e10 hP hall fr_A
          generalize vs 7 = v7 at *
          generalize vs 9 = v9 at *
          have HZ := Lib.hid (HR.out v9 u9 h9 hS)
          clear h9 hS
          go_wp2
          refine bodyPost_ret (results_tmp3 rfl _ _ _) rfl ?_
          exact HZ.out
      · obtain rfl := k2 e4
        have e4i : ¬ d = 4 := by omega
        have e4j : ¬ (4 : Int) = (d : Int) := by omega
        have e4k : ¬ (d : Int) = 4 := by omega
        clear k1 k2
        go_enter Try.func26, Try.ntmps26
        go_wp2_with fail
        have fr_B : ∀ j s, j < 11 → (([some 12, some 13, some 14, some 15, some 16, some 17, some 18, some 19, some 2, some 3, some 4] : List (Option Nat)).all fun d => d != some s) = true → ([some 12, some 13, some 14, some 15, some 16, some 17, some 18, some 19, some 2, some 3, some 4] : List (Option Nat)).getD j none ≠ some s := by
          intro j s hj ha e
          rw [List.getD_eq_getElem?_getD, List.getElem?_eq_getElem (by exact hj), Option.getD_some] at e
          have := List.all_eq_true.1 ha _ (List.getElem_mem (by exact hj))
          rw [e] at this
          simp at this
        refine region_tel (by kernel_rfl) (fun k0 => ([some 12, some 13, some 14, some 15, some 16, some 17, some 18, some 19, some 2, some 3, some 4] : List (Option Nat)).getD k0 none) (PL [eqP (.pointer (some ⟨w.heap.size, 1, none⟩)), eqP (.slice (some ad) bs.length d), eqP (.slice (some ad) 4 d), eqP (.string S4), eqP (.pointer (some ⟨w.heap.size, 1, none⟩)), eqP (.slice (some ad) bs.length d), eqP (.slice (some (ad.add 4)) N4 D4), (fun v u => CSrc u v BD), eqP (.string S4), (fun v u => CSrc u v BD), eqP (iv 0)]) (Only Nix) (fun _ u => Only Nix W1 u) 20 11 rfl (by kernel_rfl) (by kernel_rfl) rfl (by kernel_rfl) (by kernel_rfl) (stab_all ⟨fun _ _ _ h _ => h, fun _ _ _ h _ => h, fun _ _ _ h _ => h, fun _ _ _ h _ => h, fun _ _ _ h _ => h, fun _ _ _ h _ => h, fun _ _ _ h _ => h, fun _ _ _ h hf => h.nix hf, fun _ _ _ h _ => h, fun _ _ _ h hf => h.nix hf, fun _ _ _ h _ => h, trivial⟩) ((Only.refl _ _).drew) ?stepsB (fun vs => [(12, vs 0), (13, vs 1), (14, vs 2), (15, vs 3), (16, vs 4), (17, vs 5), (18, vs 6), (19, vs 7), (2, vs 8), (3, vs 9), (4, vs 10)]) (fun vs => rfl) ?doneB
        case stepsB =>
          refine ⟨?_, ?_, ?_, ?_, ?_, ?_, ?_, ?_, ?_, ?_, ?_, trivial⟩
          · intro L vs A' u hW hL0 hnd K' hK
            have hS := hW.wi.s
            have r1 : A'.tmps[1]? = some (.pointer (some ⟨w.heap.size, 0, none⟩)) := (hW.out 1 (fun j hj => fr_B j 1 hj (by kernel_rfl))).trans rfl
            go_simp
            exact hK _ _ (by first | rfl | (show _ = _; simp)) (Only.refl Nix _) (hS)
          · intro L vs A' u hW hL0 hnd K' hK
            have hS := hW.wi.s
            have r12 : A'.tmps[12]? = some (.pointer (some ⟨w.heap.size, 1, none⟩)) := by
              obtain ⟨x, e, h⟩ := hW.tel 0 12 (by decide) (hnd 0 (by kernel_rfl)) rfl
              rw [e]; exact congrArg some h
            have c1u := cell_keep hS c1
            go_simp
            exact hK _ _ (by first | rfl | (show _ = _; simp)) (Only.refl Nix _) (hS)
          · intro L vs A' u hW hL0 hnd K' hK
            have hS := hW.wi.s
            have r13 : A'.tmps[13]? = some (.slice (some ad) bs.length d) := by
              obtain ⟨x, e, h⟩ := hW.tel 1 13 (by decide) (hnd 1 (by kernel_rfl)) rfl
              rw [e]; exact congrArg some h
            go_simp
            exact hK _ _ (by first | rfl | (show _ = _; simp)) (Only.refl Nix _) (hS)
          · intro L vs A' u hW hL0 hnd K' hK
            have hS := hW.wi.s
            have r14 : A'.tmps[14]? = some (.slice (some ad) 4 d) := by
              obtain ⟨x, e, h⟩ := hW.tel 2 14 (by decide) (hnd 2 (by kernel_rfl)) rfl
              rw [e]; exact congrArg some h
            have hcv := HCv.out u hS
            go_simp
            exact hK _ _ (by first | rfl | (show _ = _; simp)) (Only.refl Nix _) (hS)
          · intro L vs A' u hW hL0 hnd K' hK
            have hS := hW.wi.s
            have r1 : A'.tmps[1]? = some (.pointer (some ⟨w.heap.size, 0, none⟩)) := (hW.out 1 (fun j hj => fr_B j 1 hj (by kernel_rfl))).trans rfl
            go_simp
            exact hK _ _ (by first | rfl | (show _ = _; simp)) (Only.refl Nix _) (hS)
          · intro L vs A' u hW hL0 hnd K' hK
            have hS := hW.wi.s
            have r16 : A'.tmps[16]? = some (.pointer (some ⟨w.heap.size, 1, none⟩)) := by
              obtain ⟨x, e, h⟩ := hW.tel 4 16 (by decide) (hnd 4 (by kernel_rfl)) rfl
              rw [e]; exact congrArg some h
            have c1u := cell_keep hS c1
            go_simp
            exact hK _ _ (by first | rfl | (show _ = _; simp)) (Only.refl Nix _) (hS)
          · intro L vs A' u hW hL0 hnd K' hK
            have hS := hW.wi.s
            have r17 : A'.tmps[17]? = some (.slice (some ad) bs.length d) := by
              obtain ⟨x, e, h⟩ := hW.tel 5 17 (by decide) (hnd 5 (by kernel_rfl)) rfl
              rw [e]; exact congrArg some h
            go_simp
            exact hK _ _ (by show _ = _; simp; exact ⟨(add_four ad).symm, HN4.out, HD4.out⟩) (Only.refl Nix _) (hS)
          · intro L vs A' u hW hL0 hnd K' hK
            have hS := hW.wi.s
            have r18 : A'.tmps[18]? = some (.slice (some (ad.add 4)) N4 D4) := by
              obtain ⟨x, e, h⟩ := hW.tel 6 18 (by decide) (hnd 6 (by kernel_rfl)) rfl
              rw [e]; exact congrArg some h
            have HCL := Lib.hid (HCl.out u hS)
            go_simp
            refine (HCL.out).mono ?_
            rintro _ u' ⟨v, rfl, s, ho2⟩
            exact hK _ _ s ho2 (hS.trans ho2)
          · intro L vs A' u hW hL0 hnd K' hK
            have hS := hW.wi.s
            have r15 : A'.tmps[15]? = some (.string S4) := by
              obtain ⟨x, e, h⟩ := hW.tel 3 15 (by decide) (hnd 3 (by kernel_rfl)) rfl
              rw [e]; exact congrArg some h
            go_simp
            exact hK _ _ (by first | rfl | (show _ = _; simp)) (Only.refl Nix _) (hS)
          · intro L vs A' u hW hL0 hnd K' hK
            have hS := hW.wi.s
            obtain ⟨x, e19, h19⟩ := hW.tel 7 19 (by decide) (hnd 7 (by kernel_rfl)) rfl
            have h19' : CSrc u x BD := h19
            have r19 : A'.tmps[19]? = some x := e19
            clear e19 h19
            go_simp
            exact hK _ _ h19' (Only.refl Nix _) (hS)
          · intro L vs A' u hW hL0 hnd K' hK
            have hS := hW.wi.s
            go_simp
            exact hK _ _ (by first | rfl | (show _ = _; simp)) (Only.refl Nix _) (hS)
        case doneB =>
          intro L vs u9 hS hP hall
          have e0 : vs 0 = .pointer (some ⟨w.heap.size, 1, none⟩) := hP 0 (by decide)
          have e1 : vs 1 = .slice (some ad) bs.length d := hP 1 (by decide)
          have e2 : vs 2 = .slice (some ad) 4 d := hP 2 (by decide)
          have e3 : vs 3 = .string S4 := hP 3 (by decide)
          have e4 : vs 4 = .pointer (some ⟨w.heap.size, 1, none⟩) := hP 4 (by decide)
          have e5 : vs 5 = .slice (some ad) bs.length d := hP 5 (by decide)
          have e6 : vs 6 = .slice (some (ad.add 4)) N4 D4 := hP 6 (by decide)
          have e8 : vs 8 = .string S4 := hP 8 (by decide)
          have e10 : vs 10 = iv 0 := hP 10 (by decide)
          simp only [putV, List.foldl_cons, List.foldl_nil, List.setIfInBounds_toArray, List.set_cons_zero, List.set_cons_succ, e0, e1, e2, e3, e4, e5, e6, e8, e10]
          have h9 : CSrc u9 (vs 9) BD := hP 9 (by decide)
          clear e0 e1 e2 e3 e4 e5 e6 e8 e10 hP hall fr_B
          generalize vs 7 = v7 at *
          generalize vs 9 = v9 at *
          have HZ := Lib.hid (HR.out v9 u9 h9 hS)
          clear h9 hS
          go_wp2
          refine bodyPost_ret (results_tmp3 rfl _ _ _) rfl ?_
          exact HZ.out
  · have HR : Hid (NmR w t bs (.returned (.tuple #[.string ⟨#[]⟩, .slice none 0 0, iv 13])) W1) := Lib.hid ⟨by rw [if_neg ht], a1.out⟩
    have hti : (t != 2) = true := by simpa using ht
    go_enter Try.func26, Try.ntmps26
    go_wp2
    refine bodyPost_ret (results_tmp3 rfl _ _ _) rfl ?_
    exact HR.out
end Go.Proofs.Ytighdjbeddcckaa
