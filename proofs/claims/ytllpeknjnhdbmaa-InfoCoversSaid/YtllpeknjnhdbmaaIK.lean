/-
  The document's Of: its walk.
-/
import Derived.Test.YtllpeknjnhdbmaaIK0
namespace Go.Proofs.Ytllpeknjnhdbmaa
open Go.RowKit Go.Shelf

/-- a region's world where one cell of a block is stored (operation c) -/
structure StW (wr : World) (b : Nat) (t : TypeId) (R R' : Array Value) (c : Nat) (L : Nat → Bool) (u : World) : Prop where
  only : Only (Just b) wr u
  box : Box u b t (if L c = true then R' else R)
section
variable {wr u : World} {b c i : Nat} {t : TypeId} {R R' : Array Value} {L : Nat → Bool}
theorem StW.same (h : StW wr b t R R' c L u) (hi : c ≠ i) : StW wr b t R R' c (andOne L i) u := ⟨h.only, by rw [andOne_ne hi]; exact h.box⟩
theorem StW.low (h : StW wr b t R R' c L u) (hL : L c = false) : Box u b t R := by
  have := h.box
  rw [hL] at this
  exact this
theorem StW.put (h : StW wr b t R R' c L u) (hL : L c = false) (k : Nat) (v : Value) (hR : R.setIfInBounds k v = R') : StW wr b t R R' c (andOne L c) (u.setCell ⟨b, k, none⟩ v) := by
  refine ⟨h.only.setCell (p := ⟨b, k, none⟩) (.inl rfl) v, ?_⟩
  rw [andOne_self, if_pos rfl, ← hR]
  exact (h.low hL).put k v
theorem StW.out (h : StW wr b t R R' c L u) (hL : L c = true) : Box u b t R' := by
  have := h.box
  rw [hL] at this
  exact this
theorem StW.begin (h : Box wr b t R) : StW wr b t R R' c (fun _ => false) wr.drew := ⟨(Only.refl _ _).drew, h⟩
end
abbrev ov (a b c d e : Int) : Array Value := #[iv a, iv b, iv c, iv d, iv e]
theorem max_i (ts : Array TypeId) (t : TypeId) (x y z : Int) (h : (if y > x then y else x) = z) (w : World) : (Builtin.max_ ts t #[.int .i64 x, .int .i64 y]).run Try.prog w = .ok (.int .i64 z) w := by rw [run_max_int2, h]
/-- a row stored whole -/
theorem wpList_store_row5 {P : Program} {w : World} {ops : Array Oper} {rest : List Oper} {o : Oper} {a : Act} {Q : Exit → Act → World → Prop} {ty : TypeId} (hg : o.guard = none) (p x : Operand) (hop : o.op = Op.store ty p x) (hd : o.dst = none)
    (b : Nat) {t : TypeId} (old cells : Array Value) (hp : a.eval p = .pointer (some ⟨b, 0, none⟩)) (hx : a.eval x = .agg cells) (hB : Box w b t old) (hi : (P.info? ty).map (·.size) = some cells.size) (ho : old.size = cells.size) (h1 : cells.all (·.oneCell') = true)
    (h : ∀ w', Box w' b t cells → Only (Just b) w w' → wpList P ops Q rest a w') : wpList P ops Q (o :: rest) a w := by
  refine wpList_plain hg fun K hK => ?_
  obtain ⟨h2, h3⟩ := box_setRow hB cells
  have hr := run_storeVar_row (P := P) w b t ty old cells hB hi ho h1
  unfold Oper.wp execOp
  simp only [hop, Instr.storeAt, Instr.sureAddr, Sem.run_bind, Sem.run_pure, Result.andThen_ok, hp, hx, hr]
  have := hK (a.put o.dst undef) (w.setRow b cells) (by rw [hd]; exact h _ h2 h3)
  exact this
theorem min_i (ts : Array TypeId) (t : TypeId) (x y z : Int) (h : (if x > y then y else x) = z) (w : World) : (Builtin.min_ ts t #[.int .i64 x, .int .i64 y]).run Try.prog w = .ok (.int .i64 z) w := by
  rw [run_min_int2, ← h]
def RoRel (w : World) (b4 b5 : Nat) (bl by_ : List Int) (s7 : Value) (wr : World) : Prop :=
  ∃ k : Nat, k ≤ bl.length ∧ s7 = iv k ∧ Box wr b4 50 (ov 0 0 0 0 0) ∧ Box wr b5 50 (ov (rf0 bl k) (maxL (16 :: bl.take k)) (minL (by_.take k)) (maxL (0 :: by_.take k)) ((bl.take k).sum)) ∧ Only Nix w wr
def RoR (w : World) (L : List Int) (e : Ending) (w' : World) : Prop := e = .returned (.agg (L.map iv).toArray) ∧ Only Nix w w'
set_option maxRecDepth 100000 in
set_option maxHeartbeats 8000000 in
theorem refOf_any {w : World} {v1 v2 : Value} {bl by_ : List Int} (h1 : ISrc w v1 bl) (h2 : ISrc w v2 by_) (hlen : by_.length = bl.length) (hn : bl.length ≤ 100) (hb : ∀ x ∈ bl, 0 ≤ x ∧ x ≤ 65536) :
    Calls Try.prog 20 #[v1, v2] w fun e w' => RoR w (rfA bl by_) e w' := by
  obtain ⟨A1, c1, rfl⟩ := h1.slice
  obtain ⟨A2, c2, rfl⟩ := h2.slice
  have hsm := h1.small
  have HV1 := Lib.hid h1
  have HV2 := Lib.hid h2
  have Hlen := Lib.hid hlen
  rw [hlen]
  have a4 := (Only.refl Nix w).alloc (.cells (ov 0 0 0 0 0) 50)
  have b4 := Box.new w 50 (ov 0 0 0 0 0)
  obtain ⟨W4, hW4⟩ : ∃ W4, w.alloc (.cells (ov 0 0 0 0 0) 50) = W4 := ⟨_, rfl⟩
  rw [hW4] at a4 b4
  have HB4 := Lib.hid b4
  have HO4 := Lib.hid a4
  have hle : w.heap.size ≤ W4.heap.size := a4.size
  have hne : w.heap.size ≠ W4.heap.size := by have := b4.lt; omega
  have HBd : Hid (∀ x ∈ bl, 0 ≤ x ∧ x ≤ 65536) := Lib.hid hb
  have HSum : Hid (∀ k, 0 ≤ (bl.take k).sum ∧ (bl.take k).sum ≤ 6553600) := Lib.hid (fun k => by
    have key : ∀ (l : List Int), (∀ x ∈ l, 0 ≤ x ∧ x ≤ 65536) → 0 ≤ l.sum ∧ l.sum ≤ 65536 * (l.length : Int) := by
      intro l
      induction l with
      | nil => intro _; simp
      | cons x l ih =>
        intro h
        have i1 := ih (fun y hy => h y (List.mem_cons_of_mem _ hy))
        have i2 := h x (List.mem_cons_self ..)
        simp only [List.sum_cons, List.length_cons]
        omega
    have := key (bl.take k) (fun x hx => hb x (List.mem_of_mem_take hx))
    rw [List.length_take] at this
    omega)
  clear h1 h2 hlen a4 b4 hb
  go_enter Try.func20, Try.ntmps20
  go_wp2
  go_loopw [7] (fun s7 wr => RoRel w w.heap.size W4.heap.size bl by_ s7 wr) (fun s7 _ => bl.length - (intOf s7).toNat)
  case atStart => exact ⟨0, Nat.zero_le _, rfl, HB4.out.alloc _, Box.new W4 _ _, HO4.out.alloc _⟩
  case round =>
    obtain ⟨k, hk, rfl, hb4, hb5, ho⟩ := hrel
    have HB4r := Lib.hid hb4
    have HO := Lib.hid ho
    by_cases hlt : k < bl.length
    · have hlt2 : k < by_.length := by rw [Hlen.out]; exact hlt
      obtain ⟨ad, rfl, hx⟩ := HV1.out.at_ hlt
      obtain ⟨bd, rfl, hy⟩ := HV2.out.at_ hlt2
      have HNX : Hid (¬ Just W4.heap.size (ad.add k).block) := Lib.hid (by
        have := World.block_lt_of_cell? w _ hx
        show ¬ (ad.add k).block = _
        omega)
      have HNY : Hid (¬ Just W4.heap.size (bd.add k).block) := Lib.hid (by
        have := World.block_lt_of_cell? w _ hy
        show ¬ (bd.add k).block = _
        omega)
      have hlti : (k : Int) < (bl.length : Int) := by omega
      have HX := Lib.hid hx
      have HY := Lib.hid hy
      have e0 := rf0_succ bl k hlt
      have e1 := max_succ 16 bl k hlt
      have e2 := min_succ by_ k hlt2
      have e3 := max_succ 0 by_ k hlt2
      have e4 : (bl.take (k + 1)).sum = (bl.take k).sum + bl[k] := by rw [List.take_succ_eq_append_getElem hlt, List.sum_append]; simp
      have hxb := HBd.out _ (List.getElem_mem hlt)
      have hsb := HSum.out k
      have HB5 := Lib.hid hb5
      clear hx hy hb4 hb5 ho
      generalize bl[k] = x at *
      generalize by_[k] = y at *
      generalize rf0 bl k = o0 at *
      generalize maxL (16 :: bl.take k) = o1 at *
      generalize minL (by_.take k) = o2 at *
      generalize maxL (0 :: by_.take k) = o3 at *
      generalize (bl.take k).sum = o4 at *
      obtain ⟨p4, hp4⟩ : ∃ z, o4 + x = z := ⟨_, rfl⟩
      obtain ⟨p1, hp1⟩ : ∃ z, (if x > o1 then x else o1) = z := ⟨_, rfl⟩
      obtain ⟨p3, hp3⟩ : ∃ z, (if y > o3 then y else o3) = z := ⟨_, rfl⟩
      obtain ⟨q2, hq2⟩ : ∃ z, (if k = 0 then y else o2) = z := ⟨_, rfl⟩
      obtain ⟨p2, hp2⟩ : ∃ z, (if q2 > y then y else q2) = z := ⟨_, rfl⟩
      obtain ⟨a, ha⟩ : ∃ z, decide (k = 0) = z := ⟨_, rfl⟩
      obtain ⟨b, hb⟩ : ∃ z, decide ((k : Int) < (bl.length : Int) - 1) = z := ⟨_, rfl⟩
      obtain ⟨c, hc⟩ : ∃ z, decide (x < o0) = z := ⟨_, rfl⟩
      obtain ⟨g, hg⟩ : ∃ z, (a || (b && c)) = z := ⟨_, rfl⟩
      rw [ha, hb, hc, hg] at e0
      rw [hp1] at e1
      rw [hq2, hp2] at e2
      rw [hp3] at e3
      rw [hp4] at e4
      have E0 := Lib.hid e0
      have E1 := Lib.hid e1
      have E2 := Lib.hid e2
      have E3 := Lib.hid e3
      have E4 := Lib.hid e4
      have Hp4 := Lib.hid hp4
      have Hp1 := Lib.hid hp1
      have Hp2 := Lib.hid hp2
      have Hp3 := Lib.hid hp3
      have Hq2 := Lib.hid hq2
      have Ha := Lib.hid ha
      have Hb := Lib.hid hb
      have Hc := Lib.hid hc
      have Hg := Lib.hid hg
      have hp4b : 0 ≤ p4 ∧ p4 ≤ 6700000 := by omega
      clear e0 e1 e2 e3 e4 hp4 hp1 hp2 hp3 hq2 ha hb hc hg hlt2
      go_wp2_with fail
      have fr_A : ∀ j s, j < 9 → (([some 16, some 17, some 18, some 19, some 20, some 21, some 22, some 23, none] : List (Option Nat)).all fun d => d != some s) = true → ([some 16, some 17, some 18, some 19, some 20, some 21, some 22, some 23, none] : List (Option Nat)).getD j none ≠ some s := by
        intro j s hj ha e
        rw [List.getD_eq_getElem?_getD, List.getElem?_eq_getElem (by exact hj), Option.getD_some] at e
        have := List.all_eq_true.1 ha _ (List.getElem_mem (by exact hj))
        rw [e] at this
        simp at this
      refine region_tel (by kernel_rfl) (fun k0 => ([some 16, some 17, some 18, some 19, some 20, some 21, some 22, some 23, none] : List (Option Nat)).getD k0 none) (PL [eqP (.pointer (some ⟨W4.heap.size, 4, none⟩)), eqP (iv o4), eqP (.slice (some ad) bl.length c1), eqP (iv k), eqP (.pointer (some (ad.add k))), eqP (iv x), eqP (iv p4), eqP (.pointer (some ⟨W4.heap.size, 4, none⟩)), (fun _ _ => True)]) (fun _ _ => True) (StW wr W4.heap.size 50 (ov o0 o1 o2 o3 o4) (ov o0 o1 o2 o3 p4) 8) 87 9 rfl (by kernel_rfl) (by kernel_rfl) rfl (by kernel_rfl) (by kernel_rfl) (stab_all ⟨fun _ _ _ h _ => h, fun _ _ _ h _ => h, fun _ _ _ h _ => h, fun _ _ _ h _ => h, fun _ _ _ h _ => h, fun _ _ _ h _ => h, fun _ _ _ h _ => h, fun _ _ _ h _ => h, fun _ _ _ h _ => h, trivial⟩) (StW.begin HB5.out) ?stepsA (fun vs => [(16, vs 0), (17, vs 1), (18, vs 2), (19, vs 3), (20, vs 4), (21, vs 5), (22, vs 6), (23, vs 7)]) (fun vs => rfl) ?doneA
      case stepsA =>
        refine ⟨?_, ?_, ?_, ?_, ?_, ?_, ?_, ?_, ?_, trivial⟩
        · intro L vs A' u hW hL0 hnd K' hK
          have hS := hW.wi.s
          have r5 : A'.tmps[5]? = some (.pointer (some ⟨W4.heap.size, 0, none⟩)) := (hW.out 5 (fun j hj => fr_A j 5 hj (by kernel_rfl))).trans rfl
          go_simp
          exact hK _ _ (by first | rfl | (show _ = _; simp)) trivial (hS.same (by decide))
        · intro L vs A' u hW hL0 hnd K' hK
          have hS := hW.wi.s
          have r16 : A'.tmps[16]? = some (.pointer (some ⟨W4.heap.size, 4, none⟩)) := by
            obtain ⟨x, e, h⟩ := hW.tel 0 16 (by decide) (hnd 0 (by kernel_rfl)) rfl
            rw [e]; exact congrArg some h
          have hL6 := notYet hW.closed (j := 6) rfl (k := 1) (by kernel_rfl) hL0
          have hL8 := notYet hW.closed (j := 8) rfl (k := 6) (by kernel_rfl) hL6
          have hc := (hS.low hL8).cell 4
          simp only [List.getElem?_toArray, List.getElem?_cons_zero, List.getElem?_cons_succ] at hc
          go_simp
          exact hK _ _ (by first | rfl | (show _ = _; simp)) trivial (hS.same (by decide))
        · intro L vs A' u hW hL0 hnd K' hK
          have hS := hW.wi.s
          have r0 : A'.tmps[0]? = some (.slice (some ad) bl.length c1) := (hW.out 0 (fun j hj => fr_A j 0 hj (by kernel_rfl))).trans rfl
          go_simp
          exact hK _ _ (by first | rfl | (show _ = _; simp)) trivial (hS.same (by decide))
        · intro L vs A' u hW hL0 hnd K' hK
          have hS := hW.wi.s
          have r7 : A'.tmps[7]? = some (iv k) := (hW.out 7 (fun j hj => fr_A j 7 hj (by kernel_rfl))).trans rfl
          go_simp
          exact hK _ _ (by first | rfl | (show _ = _; simp)) trivial (hS.same (by decide))
        · intro L vs A' u hW hL0 hnd K' hK
          have hS := hW.wi.s
          have r18 : A'.tmps[18]? = some (.slice (some ad) bl.length c1) := by
            obtain ⟨x, e, h⟩ := hW.tel 2 18 (by decide) (hnd 2 (by kernel_rfl)) rfl
            rw [e]; exact congrArg some h
          have r19 : A'.tmps[19]? = some (iv k) := by
            obtain ⟨x, e, h⟩ := hW.tel 3 19 (by decide) (hnd 3 (by kernel_rfl)) rfl
            rw [e]; exact congrArg some h
          go_simp
          exact hK _ _ (by first | rfl | (show _ = _; simp)) trivial (hS.same (by decide))
        · intro L vs A' u hW hL0 hnd K' hK
          have hS := hW.wi.s
          have r20 : A'.tmps[20]? = some (.pointer (some (ad.add k))) := by
            obtain ⟨x, e, h⟩ := hW.tel 4 20 (by decide) (hnd 4 (by kernel_rfl)) rfl
            rw [e]; exact congrArg some h
          have hc := cell_only hS.only (cell_keep HO.out HX.out) HNX.out
          go_simp
          exact hK _ _ (by first | rfl | (show _ = _; simp)) trivial (hS.same (by decide))
        · intro L vs A' u hW hL0 hnd K' hK
          have hS := hW.wi.s
          have r17 : A'.tmps[17]? = some (iv o4) := by
            obtain ⟨x, e, h⟩ := hW.tel 1 17 (by decide) (hnd 1 (by kernel_rfl)) rfl
            rw [e]; exact congrArg some h
          have r21 : A'.tmps[21]? = some (iv x) := by
            obtain ⟨x, e, h⟩ := hW.tel 5 21 (by decide) (hnd 5 (by kernel_rfl)) rfl
            rw [e]; exact congrArg some h
          go_simp
          exact hK _ _ (by show Value.int .i64 _ = Value.int .i64 _; rw [← Hp4.out]; exact congrArg _ (wraps_i64 _ (by have := Hp4.out; omega) (by have := Hp4.out; omega))) trivial (hS.same (by decide))
        · intro L vs A' u hW hL0 hnd K' hK
          have hS := hW.wi.s
          have r5 : A'.tmps[5]? = some (.pointer (some ⟨W4.heap.size, 0, none⟩)) := (hW.out 5 (fun j hj => fr_A j 5 hj (by kernel_rfl))).trans rfl
          go_simp
          exact hK _ _ (by first | rfl | (show _ = _; simp)) trivial (hS.same (by decide))
        · intro L vs A' u hW hL0 hnd K' hK
          have hS := hW.wi.s
          have r23 : A'.tmps[23]? = some (.pointer (some ⟨W4.heap.size, 4, none⟩)) := by
            obtain ⟨x, e, h⟩ := hW.tel 7 23 (by decide) (hnd 7 (by kernel_rfl)) rfl
            rw [e]; exact congrArg some h
          have r22 : A'.tmps[22]? = some (iv p4) := by
            obtain ⟨x, e, h⟩ := hW.tel 6 22 (by decide) (hnd 6 (by kernel_rfl)) rfl
            rw [e]; exact congrArg some h
          have hf := (hS.low hL0).frozen 4
          have hc := (hS.low hL0).cell 4
          simp only [List.getElem?_toArray, List.getElem?_cons_zero, List.getElem?_cons_succ] at hc
          go_simp
          exact hK undef _ trivial trivial (hS.put hL0 4 (iv p4) rfl)
      case doneA =>
        intro L vs u6 hS hP hall
        have e0 : vs 0 = .pointer (some ⟨W4.heap.size, 4, none⟩) := hP 0 (by decide)
        have e1 : vs 1 = iv o4 := hP 1 (by decide)
        have e2 : vs 2 = .slice (some ad) bl.length c1 := hP 2 (by decide)
        have e3 : vs 3 = iv k := hP 3 (by decide)
        have e4 : vs 4 = .pointer (some (ad.add k)) := hP 4 (by decide)
        have e5 : vs 5 = iv x := hP 5 (by decide)
        have e6 : vs 6 = iv p4 := hP 6 (by decide)
        have e7 : vs 7 = .pointer (some ⟨W4.heap.size, 4, none⟩) := hP 7 (by decide)
        simp only [putV, List.foldl_cons, List.foldl_nil, List.setIfInBounds_toArray, List.set_cons_zero, List.set_cons_succ, e0, e1, e2, e3, e4, e5, e6, e7]
        have HB6 := Lib.hid (hS.out (hall 8 (by decide)))
        have HR6 := Lib.hid (HB4r.out.only hS.only (fun e => hne e))
        have HO6 := Lib.hid (HO.out.then hS.only (fun i e => .inr (by rw [show i = _ from e]; exact hle)))
        clear e0 e1 e2 e3 e4 e5 e6 e7 hP hall fr_A hS
        go_wp2_with fail
        have fr_B : ∀ j s, j < 9 → (([some 24, some 25, some 26, some 27, some 28, some 29, some 30, some 31, none] : List (Option Nat)).all fun d => d != some s) = true → ([some 24, some 25, some 26, some 27, some 28, some 29, some 30, some 31, none] : List (Option Nat)).getD j none ≠ some s := by
          intro j s hj ha e
          rw [List.getD_eq_getElem?_getD, List.getElem?_eq_getElem (by exact hj), Option.getD_some] at e
          have := List.all_eq_true.1 ha _ (List.getElem_mem (by exact hj))
          rw [e] at this
          simp at this
        refine region_tel (by kernel_rfl) (fun k0 => ([some 24, some 25, some 26, some 27, some 28, some 29, some 30, some 31, none] : List (Option Nat)).getD k0 none) (PL [eqP (.pointer (some ⟨W4.heap.size, 1, none⟩)), eqP (iv o1), eqP (.slice (some ad) bl.length c1), eqP (iv k), eqP (.pointer (some (ad.add k))), eqP (iv x), eqP (iv p1), eqP (.pointer (some ⟨W4.heap.size, 1, none⟩)), (fun _ _ => True)]) (fun _ _ => True) (StW u6 W4.heap.size 50 (ov o0 o1 o2 o3 p4) (ov o0 p1 o2 o3 p4) 8) 87 9 rfl (by kernel_rfl) (by kernel_rfl) rfl (by kernel_rfl) (by kernel_rfl) (stab_all ⟨fun _ _ _ h _ => h, fun _ _ _ h _ => h, fun _ _ _ h _ => h, fun _ _ _ h _ => h, fun _ _ _ h _ => h, fun _ _ _ h _ => h, fun _ _ _ h _ => h, fun _ _ _ h _ => h, fun _ _ _ h _ => h, trivial⟩) (StW.begin HB6.out) ?stepsB (fun vs => [(24, vs 0), (25, vs 1), (26, vs 2), (27, vs 3), (28, vs 4), (29, vs 5), (30, vs 6), (31, vs 7)]) (fun vs => rfl) ?doneB
        case stepsB =>
          refine ⟨?_, ?_, ?_, ?_, ?_, ?_, ?_, ?_, ?_, trivial⟩
          · intro L vs A' u hW hL0 hnd K' hK
            have hS := hW.wi.s
            have r5 : A'.tmps[5]? = some (.pointer (some ⟨W4.heap.size, 0, none⟩)) := (hW.out 5 (fun j hj => fr_B j 5 hj (by kernel_rfl))).trans rfl
            go_simp
            exact hK _ _ (by first | rfl | (show _ = _; simp)) trivial (hS.same (by decide))
          · intro L vs A' u hW hL0 hnd K' hK
            have hS := hW.wi.s
            have r24 : A'.tmps[24]? = some (.pointer (some ⟨W4.heap.size, 1, none⟩)) := by
              obtain ⟨x, e, h⟩ := hW.tel 0 24 (by decide) (hnd 0 (by kernel_rfl)) rfl
              rw [e]; exact congrArg some h
            have hL6 := notYet hW.closed (j := 6) rfl (k := 1) (by kernel_rfl) hL0
            have hL8 := notYet hW.closed (j := 8) rfl (k := 6) (by kernel_rfl) hL6
            have hc := (hS.low hL8).cell 1
            simp only [List.getElem?_toArray, List.getElem?_cons_zero, List.getElem?_cons_succ] at hc
            go_simp
            exact hK _ _ (by first | rfl | (show _ = _; simp)) trivial (hS.same (by decide))
          · intro L vs A' u hW hL0 hnd K' hK
            have hS := hW.wi.s
            have r0 : A'.tmps[0]? = some (.slice (some ad) bl.length c1) := (hW.out 0 (fun j hj => fr_B j 0 hj (by kernel_rfl))).trans rfl
            go_simp
            exact hK _ _ (by first | rfl | (show _ = _; simp)) trivial (hS.same (by decide))
          · intro L vs A' u hW hL0 hnd K' hK
            have hS := hW.wi.s
            have r7 : A'.tmps[7]? = some (iv k) := (hW.out 7 (fun j hj => fr_B j 7 hj (by kernel_rfl))).trans rfl
            go_simp
            exact hK _ _ (by first | rfl | (show _ = _; simp)) trivial (hS.same (by decide))
          · intro L vs A' u hW hL0 hnd K' hK
            have hS := hW.wi.s
            have r26 : A'.tmps[26]? = some (.slice (some ad) bl.length c1) := by
              obtain ⟨x, e, h⟩ := hW.tel 2 26 (by decide) (hnd 2 (by kernel_rfl)) rfl
              rw [e]; exact congrArg some h
            have r27 : A'.tmps[27]? = some (iv k) := by
              obtain ⟨x, e, h⟩ := hW.tel 3 27 (by decide) (hnd 3 (by kernel_rfl)) rfl
              rw [e]; exact congrArg some h
            go_simp
            exact hK _ _ (by first | rfl | (show _ = _; simp)) trivial (hS.same (by decide))
          · intro L vs A' u hW hL0 hnd K' hK
            have hS := hW.wi.s
            have r28 : A'.tmps[28]? = some (.pointer (some (ad.add k))) := by
              obtain ⟨x, e, h⟩ := hW.tel 4 28 (by decide) (hnd 4 (by kernel_rfl)) rfl
              rw [e]; exact congrArg some h
            have hc := cell_only hS.only (cell_keep HO6.out HX.out) HNX.out
            go_simp
            exact hK _ _ (by first | rfl | (show _ = _; simp)) trivial (hS.same (by decide))
          · intro L vs A' u hW hL0 hnd K' hK
            have hS := hW.wi.s
            have r25 : A'.tmps[25]? = some (iv o1) := by
              obtain ⟨x, e, h⟩ := hW.tel 1 25 (by decide) (hnd 1 (by kernel_rfl)) rfl
              rw [e]; exact congrArg some h
            have r29 : A'.tmps[29]? = some (iv x) := by
              obtain ⟨x, e, h⟩ := hW.tel 5 29 (by decide) (hnd 5 (by kernel_rfl)) rfl
              rw [e]; exact congrArg some h
            have hm := fun ts t => max_i ts t o1 x p1 Hp1.out u
            go_simp
            exact hK _ _ rfl trivial (hS.same (by decide))
          · intro L vs A' u hW hL0 hnd K' hK
            have hS := hW.wi.s
            have r5 : A'.tmps[5]? = some (.pointer (some ⟨W4.heap.size, 0, none⟩)) := (hW.out 5 (fun j hj => fr_B j 5 hj (by kernel_rfl))).trans rfl
            go_simp
            exact hK _ _ (by first | rfl | (show _ = _; simp)) trivial (hS.same (by decide))
          · intro L vs A' u hW hL0 hnd K' hK
            have hS := hW.wi.s
            have r31 : A'.tmps[31]? = some (.pointer (some ⟨W4.heap.size, 1, none⟩)) := by
              obtain ⟨x, e, h⟩ := hW.tel 7 31 (by decide) (hnd 7 (by kernel_rfl)) rfl
              rw [e]; exact congrArg some h
            have r30 : A'.tmps[30]? = some (iv p1) := by
              obtain ⟨x, e, h⟩ := hW.tel 6 30 (by decide) (hnd 6 (by kernel_rfl)) rfl
              rw [e]; exact congrArg some h
            have hf := (hS.low hL0).frozen 1
            have hc := (hS.low hL0).cell 1
            simp only [List.getElem?_toArray, List.getElem?_cons_zero, List.getElem?_cons_succ] at hc
            go_simp
            exact hK undef _ trivial trivial (hS.put hL0 1 (iv p1) rfl)
        case doneB =>
          intro L vs u7 hS hP hall
          have e0 : vs 0 = .pointer (some ⟨W4.heap.size, 1, none⟩) := hP 0 (by decide)
          have e1 : vs 1 = iv o1 := hP 1 (by decide)
          have e2 : vs 2 = .slice (some ad) bl.length c1 := hP 2 (by decide)
          have e3 : vs 3 = iv k := hP 3 (by decide)
          have e4 : vs 4 = .pointer (some (ad.add k)) := hP 4 (by decide)
          have e5 : vs 5 = iv x := hP 5 (by decide)
          have e6 : vs 6 = iv p1 := hP 6 (by decide)
          have e7 : vs 7 = .pointer (some ⟨W4.heap.size, 1, none⟩) := hP 7 (by decide)
          simp only [putV, List.foldl_cons, List.foldl_nil, List.setIfInBounds_toArray, List.set_cons_zero, List.set_cons_succ, e0, e1, e2, e3, e4, e5, e6, e7]
          have HB7 := Lib.hid (hS.out (hall 8 (by decide)))
          have HR7 := Lib.hid (HR6.out.only hS.only (fun e => hne e))
          have HO7 := Lib.hid (HO6.out.then hS.only (fun i e => .inr (by rw [show i = _ from e]; exact hle)))
          clear e0 e1 e2 e3 e4 e5 e6 e7 hP hall fr_B hS
          go_wp2_with fail
          have fr_C : ∀ j s, j < 17 → (([some 32, some 33, some 34, some 35, some 36, some 37, some 38, some 39, some 40, some 41, some 42, some 43, some 44, some 45, some 46, some 47, some 48] : List (Option Nat)).all fun d => d != some s) = true → ([some 32, some 33, some 34, some 35, some 36, some 37, some 38, some 39, some 40, some 41, some 42, some 43, some 44, some 45, some 46, some 47, some 48] : List (Option Nat)).getD j none ≠ some s := by
            intro j s hj ha e
            rw [List.getD_eq_getElem?_getD, List.getElem?_eq_getElem (by exact hj), Option.getD_some] at e
            have := List.all_eq_true.1 ha _ (List.getElem_mem (by exact hj))
            rw [e] at this
            simp at this
          refine region_tel (by kernel_rfl) (fun k0 => ([some 32, some 33, some 34, some 35, some 36, some 37, some 38, some 39, some 40, some 41, some 42, some 43, some 44, some 45, some 46, some 47, some 48] : List (Option Nat)).getD k0 none) (PL [eqP (iv k), eqP (.bool a), eqP (.bool a), eqP (gv (!a) (iv k)), eqP (gv (!a) (iv bl.length)), eqP (gv (!a) (iv ((bl.length : Int) - 1))), eqP (gv (!a) (.bool b)), eqP (gv (!a) (.bool b)), eqP (gv (!a && b) (.slice (some ad) bl.length c1)), eqP (gv (!a && b) (iv k)), eqP (gv (!a && b) (.pointer (some (ad.add k)))), eqP (gv (!a && b) (iv x)), eqP (gv (!a && b) (.pointer (some ⟨W4.heap.size, 0, none⟩))), eqP (gv (!a && b) (iv o0)), eqP (gv (!a && b) (.bool c)), eqP (gv (!a) (.bool (b && c))), eqP (.bool g)]) (fun _ _ => True) (fun _ u => Only Nix u7 u) 87 17 rfl (by kernel_rfl) (by kernel_rfl) rfl (by kernel_rfl) (by kernel_rfl) (stab_all ⟨fun _ _ _ h _ => h, fun _ _ _ h _ => h, fun _ _ _ h _ => h, fun _ _ _ h _ => h, fun _ _ _ h _ => h, fun _ _ _ h _ => h, fun _ _ _ h _ => h, fun _ _ _ h _ => h, fun _ _ _ h _ => h, fun _ _ _ h _ => h, fun _ _ _ h _ => h, fun _ _ _ h _ => h, fun _ _ _ h _ => h, fun _ _ _ h _ => h, fun _ _ _ h _ => h, fun _ _ _ h _ => h, fun _ _ _ h _ => h, trivial⟩) ((Only.refl _ _).drew) ?stepsC (fun vs => [(32, vs 0), (33, vs 1), (34, vs 2), (35, vs 3), (36, vs 4), (37, vs 5), (38, vs 6), (39, vs 7), (40, vs 8), (41, vs 9), (42, vs 10), (43, vs 11), (44, vs 12), (45, vs 13), (46, vs 14), (47, vs 15), (48, vs 16)]) (fun vs => rfl) ?doneC
          case stepsC =>
            refine ⟨?_, ?_, ?_, ?_, ?_, ?_, ?_, ?_, ?_, ?_, ?_, ?_, ?_, ?_, ?_, ?_, ?_, trivial⟩
            · intro L vs A' u hW hL0 hnd K' hK
              have hS := hW.wi.s
              have r7 : A'.tmps[7]? = some (iv k) := (hW.out 7 (fun j hj => fr_C j 7 hj (by kernel_rfl))).trans rfl
              go_simp
              exact hK _ _ (by first | rfl | (show _ = _; simp)) trivial (hS)
            · intro L vs A' u hW hL0 hnd K' hK
              have hS := hW.wi.s
              have r32 : A'.tmps[32]? = some (iv k) := by
                obtain ⟨x, e, h⟩ := hW.tel 0 32 (by decide) (hnd 0 (by kernel_rfl)) rfl
                rw [e]; exact congrArg some h
              go_simp
              exact hK _ _ (by first | rfl | exact congrArg Value.bool Ha.out | (refine congrArg Value.bool (Eq.trans ?_ Ha.out); first | (rw [decide_eq_decide]; omega) | (rw [Bool.eq_iff_iff]; simp; done))) trivial (hS)
            · intro L vs A' u hW hL0 hnd K' hK
              have hS := hW.wi.s
              have r33 : A'.tmps[33]? = some (.bool a) := by
                obtain ⟨x, e, h⟩ := hW.tel 1 33 (by decide) (hnd 1 (by kernel_rfl)) rfl
                rw [e]; exact congrArg some h
              go_simp
              exact hK _ _ (by first | rfl | (show _ = _; simp)) trivial (hS)
            · intro L vs A' u hW hL0 hnd K' hK
              have hS := hW.wi.s
              have r7 : A'.tmps[7]? = some (iv k) := (hW.out 7 (fun j hj => fr_C j 7 hj (by kernel_rfl))).trans rfl
              have r34 : A'.tmps[34]? = some (.bool a) := by
                obtain ⟨x, e, h⟩ := hW.tel 2 34 (by decide) (hnd 2 (by kernel_rfl)) rfl
                rw [e]; exact congrArg some h
              cases a
              all_goals
                first
                | (rw [if_pos (wanted_yes (j := 2) (s := 34) (b := false) rfl (by kernel_rfl) r34)]
                   go_simp
                   exact hK _ _ (by first | rfl | (show _ = _; simp)) trivial (hS))
                | (rw [if_neg (wanted_no (j := 2) (s := 34) (b := false) rfl (by kernel_rfl) r34)]
                   exact hK _ _ rfl trivial (hS))
                | (rw [if_neg (wanted_no2 (j := 2) (s := 34) (b := false) rfl (by kernel_rfl) r34)]
                   exact hK _ _ rfl trivial (hS))
            · intro L vs A' u hW hL0 hnd K' hK
              have hS := hW.wi.s
              have r6 : A'.tmps[6]? = some (iv bl.length) := (hW.out 6 (fun j hj => fr_C j 6 hj (by kernel_rfl))).trans rfl
              have r34 : A'.tmps[34]? = some (.bool a) := by
                obtain ⟨x, e, h⟩ := hW.tel 2 34 (by decide) (hnd 2 (by kernel_rfl)) rfl
                rw [e]; exact congrArg some h
              cases a
              all_goals
                first
                | (rw [if_pos (wanted_yes (j := 2) (s := 34) (b := false) rfl (by kernel_rfl) r34)]
                   go_simp
                   exact hK _ _ (by first | rfl | (show _ = _; simp)) trivial (hS))
                | (rw [if_neg (wanted_no (j := 2) (s := 34) (b := false) rfl (by kernel_rfl) r34)]
                   exact hK _ _ rfl trivial (hS))
                | (rw [if_neg (wanted_no2 (j := 2) (s := 34) (b := false) rfl (by kernel_rfl) r34)]
                   exact hK _ _ rfl trivial (hS))
            · intro L vs A' u hW hL0 hnd K' hK
              have hS := hW.wi.s
              have r36 : A'.tmps[36]? = some (gv (!a) (iv bl.length)) := by
                obtain ⟨x, e, h⟩ := hW.tel 4 36 (by decide) (hnd 4 (by kernel_rfl)) rfl
                rw [e]; exact congrArg some h
              have r34 : A'.tmps[34]? = some (.bool a) := by
                obtain ⟨x, e, h⟩ := hW.tel 2 34 (by decide) (hnd 2 (by kernel_rfl)) rfl
                rw [e]; exact congrArg some h
              cases a
              all_goals first | replace r36 := gv_yes r36 rfl | replace r36 := gv_no r36 rfl
              all_goals
                first
                | (rw [if_pos (wanted_yes (j := 2) (s := 34) (b := false) rfl (by kernel_rfl) r34)]
                   go_simp
                   exact hK _ _ (by first | rfl | (show Value.int .i64 _ = Value.int .i64 _; exact congrArg _ (wraps_i64 _ (by omega) (by omega)))) trivial (hS))
                | (rw [if_neg (wanted_no (j := 2) (s := 34) (b := false) rfl (by kernel_rfl) r34)]
                   exact hK _ _ rfl trivial (hS))
                | (rw [if_neg (wanted_no2 (j := 2) (s := 34) (b := false) rfl (by kernel_rfl) r34)]
                   exact hK _ _ rfl trivial (hS))
            · intro L vs A' u hW hL0 hnd K' hK
              have hS := hW.wi.s
              have r35 : A'.tmps[35]? = some (gv (!a) (iv k)) := by
                obtain ⟨x, e, h⟩ := hW.tel 3 35 (by decide) (hnd 3 (by kernel_rfl)) rfl
                rw [e]; exact congrArg some h
              have r37 : A'.tmps[37]? = some (gv (!a) (iv ((bl.length : Int) - 1))) := by
                obtain ⟨x, e, h⟩ := hW.tel 5 37 (by decide) (hnd 5 (by kernel_rfl)) rfl
                rw [e]; exact congrArg some h
              have r34 : A'.tmps[34]? = some (.bool a) := by
                obtain ⟨x, e, h⟩ := hW.tel 2 34 (by decide) (hnd 2 (by kernel_rfl)) rfl
                rw [e]; exact congrArg some h
              cases a
              all_goals first | replace r35 := gv_yes r35 rfl | replace r35 := gv_no r35 rfl
              all_goals first | replace r37 := gv_yes r37 rfl | replace r37 := gv_no r37 rfl
              all_goals
                first
                | (rw [if_pos (wanted_yes (j := 2) (s := 34) (b := false) rfl (by kernel_rfl) r34)]
                   go_simp
                   exact hK _ _ (by first | rfl | exact congrArg Value.bool Hb.out | (refine congrArg Value.bool (Eq.trans ?_ Hb.out); first | (rw [decide_eq_decide]; omega) | (rw [Bool.eq_iff_iff]; simp; done))) trivial (hS))
                | (rw [if_neg (wanted_no (j := 2) (s := 34) (b := false) rfl (by kernel_rfl) r34)]
                   exact hK _ _ rfl trivial (hS))
                | (rw [if_neg (wanted_no2 (j := 2) (s := 34) (b := false) rfl (by kernel_rfl) r34)]
                   exact hK _ _ rfl trivial (hS))
            · intro L vs A' u hW hL0 hnd K' hK
              have hS := hW.wi.s
              have r38 : A'.tmps[38]? = some (gv (!a) (.bool b)) := by
                obtain ⟨x, e, h⟩ := hW.tel 6 38 (by decide) (hnd 6 (by kernel_rfl)) rfl
                rw [e]; exact congrArg some h
              have r34 : A'.tmps[34]? = some (.bool a) := by
                obtain ⟨x, e, h⟩ := hW.tel 2 34 (by decide) (hnd 2 (by kernel_rfl)) rfl
                rw [e]; exact congrArg some h
              cases a
              all_goals first | replace r38 := gv_yes r38 rfl | replace r38 := gv_no r38 rfl
              all_goals
                first
                | (rw [if_pos (wanted_yes (j := 2) (s := 34) (b := false) rfl (by kernel_rfl) r34)]
                   go_simp
                   exact hK _ _ (by first | rfl | (show _ = _; simp)) trivial (hS))
                | (rw [if_neg (wanted_no (j := 2) (s := 34) (b := false) rfl (by kernel_rfl) r34)]
                   exact hK _ _ rfl trivial (hS))
                | (rw [if_neg (wanted_no2 (j := 2) (s := 34) (b := false) rfl (by kernel_rfl) r34)]
                   exact hK _ _ rfl trivial (hS))
            · intro L vs A' u hW hL0 hnd K' hK
              have hS := hW.wi.s
              have r0 : A'.tmps[0]? = some (.slice (some ad) bl.length c1) := (hW.out 0 (fun j hj => fr_C j 0 hj (by kernel_rfl))).trans rfl
              have r39 : A'.tmps[39]? = some (gv (!a) (.bool b)) := by
                obtain ⟨x, e, h⟩ := hW.tel 7 39 (by decide) (hnd 7 (by kernel_rfl)) rfl
                rw [e]; exact congrArg some h
              cases a <;> cases b
              all_goals first | replace r39 := gv_yes r39 rfl | replace r39 := gv_no r39 rfl
              all_goals
                first
                | (rw [if_pos (wanted_yes (j := 7) (s := 39) (b := true) rfl (by kernel_rfl) r39)]
                   go_simp
                   exact hK _ _ (by first | rfl | (show _ = _; simp)) trivial (hS))
                | (rw [if_neg (wanted_no (j := 7) (s := 39) (b := true) rfl (by kernel_rfl) r39)]
                   exact hK _ _ rfl trivial (hS))
                | (rw [if_neg (wanted_no2 (j := 7) (s := 39) (b := true) rfl (by kernel_rfl) r39)]
                   exact hK _ _ rfl trivial (hS))
            · intro L vs A' u hW hL0 hnd K' hK
              have hS := hW.wi.s
              have r7 : A'.tmps[7]? = some (iv k) := (hW.out 7 (fun j hj => fr_C j 7 hj (by kernel_rfl))).trans rfl
              have r39 : A'.tmps[39]? = some (gv (!a) (.bool b)) := by
                obtain ⟨x, e, h⟩ := hW.tel 7 39 (by decide) (hnd 7 (by kernel_rfl)) rfl
                rw [e]; exact congrArg some h
              cases a <;> cases b
              all_goals first | replace r39 := gv_yes r39 rfl | replace r39 := gv_no r39 rfl
              all_goals
                first
                | (rw [if_pos (wanted_yes (j := 7) (s := 39) (b := true) rfl (by kernel_rfl) r39)]
                   go_simp
                   exact hK _ _ (by first | rfl | (show _ = _; simp)) trivial (hS))
                | (rw [if_neg (wanted_no (j := 7) (s := 39) (b := true) rfl (by kernel_rfl) r39)]
                   exact hK _ _ rfl trivial (hS))
                | (rw [if_neg (wanted_no2 (j := 7) (s := 39) (b := true) rfl (by kernel_rfl) r39)]
                   exact hK _ _ rfl trivial (hS))
            · intro L vs A' u hW hL0 hnd K' hK
              have hS := hW.wi.s
              have r40 : A'.tmps[40]? = some (gv (!a && b) (.slice (some ad) bl.length c1)) := by
                obtain ⟨x, e, h⟩ := hW.tel 8 40 (by decide) (hnd 8 (by kernel_rfl)) rfl
                rw [e]; exact congrArg some h
              have r41 : A'.tmps[41]? = some (gv (!a && b) (iv k)) := by
                obtain ⟨x, e, h⟩ := hW.tel 9 41 (by decide) (hnd 9 (by kernel_rfl)) rfl
                rw [e]; exact congrArg some h
              have r39 : A'.tmps[39]? = some (gv (!a) (.bool b)) := by
                obtain ⟨x, e, h⟩ := hW.tel 7 39 (by decide) (hnd 7 (by kernel_rfl)) rfl
                rw [e]; exact congrArg some h
              cases a <;> cases b
              all_goals first | replace r40 := gv_yes r40 rfl | replace r40 := gv_no r40 rfl
              all_goals first | replace r41 := gv_yes r41 rfl | replace r41 := gv_no r41 rfl
              all_goals first | replace r39 := gv_yes r39 rfl | replace r39 := gv_no r39 rfl
              all_goals
                first
                | (rw [if_pos (wanted_yes (j := 7) (s := 39) (b := true) rfl (by kernel_rfl) r39)]
                   go_simp
                   exact hK _ _ (by first | rfl | (show _ = _; simp)) trivial (hS))
                | (rw [if_neg (wanted_no (j := 7) (s := 39) (b := true) rfl (by kernel_rfl) r39)]
                   exact hK _ _ rfl trivial (hS))
                | (rw [if_neg (wanted_no2 (j := 7) (s := 39) (b := true) rfl (by kernel_rfl) r39)]
                   exact hK _ _ rfl trivial (hS))
            · intro L vs A' u hW hL0 hnd K' hK
              have hS := hW.wi.s
              have r42 : A'.tmps[42]? = some (gv (!a && b) (.pointer (some (ad.add k)))) := by
                obtain ⟨x, e, h⟩ := hW.tel 10 42 (by decide) (hnd 10 (by kernel_rfl)) rfl
                rw [e]; exact congrArg some h
              have r39 : A'.tmps[39]? = some (gv (!a) (.bool b)) := by
                obtain ⟨x, e, h⟩ := hW.tel 7 39 (by decide) (hnd 7 (by kernel_rfl)) rfl
                rw [e]; exact congrArg some h
              cases a <;> cases b
              all_goals first | replace r42 := gv_yes r42 rfl | replace r42 := gv_no r42 rfl
              all_goals first | replace r39 := gv_yes r39 rfl | replace r39 := gv_no r39 rfl
              all_goals
                first
                | (rw [if_pos (wanted_yes (j := 7) (s := 39) (b := true) rfl (by kernel_rfl) r39)]
                   have hc := cell_keep hS (cell_keep HO7.out HX.out)
                   go_simp
                   exact hK _ _ (by first | rfl | (show _ = _; simp)) trivial (hS))
                | (rw [if_neg (wanted_no (j := 7) (s := 39) (b := true) rfl (by kernel_rfl) r39)]
                   exact hK _ _ rfl trivial (hS))
                | (rw [if_neg (wanted_no2 (j := 7) (s := 39) (b := true) rfl (by kernel_rfl) r39)]
                   exact hK _ _ rfl trivial (hS))
            · intro L vs A' u hW hL0 hnd K' hK
              have hS := hW.wi.s
              have r5 : A'.tmps[5]? = some (.pointer (some ⟨W4.heap.size, 0, none⟩)) := (hW.out 5 (fun j hj => fr_C j 5 hj (by kernel_rfl))).trans rfl
              have r39 : A'.tmps[39]? = some (gv (!a) (.bool b)) := by
                obtain ⟨x, e, h⟩ := hW.tel 7 39 (by decide) (hnd 7 (by kernel_rfl)) rfl
                rw [e]; exact congrArg some h
              cases a <;> cases b
              all_goals first | replace r39 := gv_yes r39 rfl | replace r39 := gv_no r39 rfl
              all_goals
                first
                | (rw [if_pos (wanted_yes (j := 7) (s := 39) (b := true) rfl (by kernel_rfl) r39)]
                   go_simp
                   exact hK _ _ (by first | rfl | (show _ = _; simp)) trivial (hS))
                | (rw [if_neg (wanted_no (j := 7) (s := 39) (b := true) rfl (by kernel_rfl) r39)]
                   exact hK _ _ rfl trivial (hS))
                | (rw [if_neg (wanted_no2 (j := 7) (s := 39) (b := true) rfl (by kernel_rfl) r39)]
                   exact hK _ _ rfl trivial (hS))
            · intro L vs A' u hW hL0 hnd K' hK
              have hS := hW.wi.s
              have r44 : A'.tmps[44]? = some (gv (!a && b) (.pointer (some ⟨W4.heap.size, 0, none⟩))) := by
                obtain ⟨x, e, h⟩ := hW.tel 12 44 (by decide) (hnd 12 (by kernel_rfl)) rfl
                rw [e]; exact congrArg some h
              have r39 : A'.tmps[39]? = some (gv (!a) (.bool b)) := by
                obtain ⟨x, e, h⟩ := hW.tel 7 39 (by decide) (hnd 7 (by kernel_rfl)) rfl
                rw [e]; exact congrArg some h
              cases a <;> cases b
              all_goals first | replace r44 := gv_yes r44 rfl | replace r44 := gv_no r44 rfl
              all_goals first | replace r39 := gv_yes r39 rfl | replace r39 := gv_no r39 rfl
              all_goals
                first
                | (rw [if_pos (wanted_yes (j := 7) (s := 39) (b := true) rfl (by kernel_rfl) r39)]
                   have hc := (HB7.out.only hS (fun e => e)).cell 0
                   simp only [List.getElem?_toArray, List.getElem?_cons_zero] at hc
                   go_simp
                   exact hK _ _ (by first | rfl | (show _ = _; simp)) trivial (hS))
                | (rw [if_neg (wanted_no (j := 7) (s := 39) (b := true) rfl (by kernel_rfl) r39)]
                   exact hK _ _ rfl trivial (hS))
                | (rw [if_neg (wanted_no2 (j := 7) (s := 39) (b := true) rfl (by kernel_rfl) r39)]
                   exact hK _ _ rfl trivial (hS))
            · intro L vs A' u hW hL0 hnd K' hK
              have hS := hW.wi.s
              have r43 : A'.tmps[43]? = some (gv (!a && b) (iv x)) := by
                obtain ⟨x, e, h⟩ := hW.tel 11 43 (by decide) (hnd 11 (by kernel_rfl)) rfl
                rw [e]; exact congrArg some h
              have r45 : A'.tmps[45]? = some (gv (!a && b) (iv o0)) := by
                obtain ⟨x, e, h⟩ := hW.tel 13 45 (by decide) (hnd 13 (by kernel_rfl)) rfl
                rw [e]; exact congrArg some h
              have r39 : A'.tmps[39]? = some (gv (!a) (.bool b)) := by
                obtain ⟨x, e, h⟩ := hW.tel 7 39 (by decide) (hnd 7 (by kernel_rfl)) rfl
                rw [e]; exact congrArg some h
              cases a <;> cases b
              all_goals first | replace r43 := gv_yes r43 rfl | replace r43 := gv_no r43 rfl
              all_goals first | replace r45 := gv_yes r45 rfl | replace r45 := gv_no r45 rfl
              all_goals first | replace r39 := gv_yes r39 rfl | replace r39 := gv_no r39 rfl
              all_goals
                first
                | (rw [if_pos (wanted_yes (j := 7) (s := 39) (b := true) rfl (by kernel_rfl) r39)]
                   go_simp
                   exact hK _ _ (by first | rfl | exact congrArg Value.bool Hc.out | (refine congrArg Value.bool (Eq.trans ?_ Hc.out); first | (rw [decide_eq_decide]; omega) | (rw [Bool.eq_iff_iff]; simp; done))) trivial (hS))
                | (rw [if_neg (wanted_no (j := 7) (s := 39) (b := true) rfl (by kernel_rfl) r39)]
                   exact hK _ _ rfl trivial (hS))
                | (rw [if_neg (wanted_no2 (j := 7) (s := 39) (b := true) rfl (by kernel_rfl) r39)]
                   exact hK _ _ rfl trivial (hS))
            · intro L vs A' u hW hL0 hnd K' hK
              have hS := hW.wi.s
              have r39 : A'.tmps[39]? = some (gv (!a) (.bool b)) := by
                obtain ⟨x, e, h⟩ := hW.tel 7 39 (by decide) (hnd 7 (by kernel_rfl)) rfl
                rw [e]; exact congrArg some h
              have r46 : A'.tmps[46]? = some (gv (!a && b) (.bool c)) := by
                obtain ⟨x, e, h⟩ := hW.tel 14 46 (by decide) (hnd 14 (by kernel_rfl)) rfl
                rw [e]; exact congrArg some h
              have r34 : A'.tmps[34]? = some (.bool a) := by
                obtain ⟨x, e, h⟩ := hW.tel 2 34 (by decide) (hnd 2 (by kernel_rfl)) rfl
                rw [e]; exact congrArg some h
              cases a <;> cases b
              all_goals first | replace r39 := gv_yes r39 rfl | replace r39 := gv_no r39 rfl
              all_goals first | replace r46 := gv_yes r46 rfl | replace r46 := gv_no r46 rfl
              all_goals
                first
                | (rw [if_pos (wanted_yes (j := 2) (s := 34) (b := false) rfl (by kernel_rfl) r34)]
                   go_simp
                   exact hK _ _ (by first | rfl | (show _ = _; simp)) trivial (hS))
                | (rw [if_neg (wanted_no (j := 2) (s := 34) (b := false) rfl (by kernel_rfl) r34)]
                   exact hK _ _ rfl trivial (hS))
                | (rw [if_neg (wanted_no2 (j := 2) (s := 34) (b := false) rfl (by kernel_rfl) r34)]
                   exact hK _ _ rfl trivial (hS))
            · intro L vs A' u hW hL0 hnd K' hK
              have hS := hW.wi.s
              have r34 : A'.tmps[34]? = some (.bool a) := by
                obtain ⟨x, e, h⟩ := hW.tel 2 34 (by decide) (hnd 2 (by kernel_rfl)) rfl
                rw [e]; exact congrArg some h
              have r47 : A'.tmps[47]? = some (gv (!a) (.bool (b && c))) := by
                obtain ⟨x, e, h⟩ := hW.tel 15 47 (by decide) (hnd 15 (by kernel_rfl)) rfl
                rw [e]; exact congrArg some h
              cases a <;> cases b
              all_goals first | replace r47 := gv_yes r47 rfl | replace r47 := gv_no r47 rfl
              all_goals
                go_simp
                exact hK _ _ (by first | exact congrArg Value.bool Hg.out | (refine congrArg Value.bool (Eq.trans ?_ Hg.out); simp)) trivial (hS)
          case doneC =>
            intro L vs u8 hS hP hall
            have e0 : vs 0 = iv k := hP 0 (by decide)
            have e1 : vs 1 = .bool a := hP 1 (by decide)
            have e2 : vs 2 = .bool a := hP 2 (by decide)
            have e3 : vs 3 = gv (!a) (iv k) := hP 3 (by decide)
            have e4 : vs 4 = gv (!a) (iv bl.length) := hP 4 (by decide)
            have e5 : vs 5 = gv (!a) (iv ((bl.length : Int) - 1)) := hP 5 (by decide)
            have e6 : vs 6 = gv (!a) (.bool b) := hP 6 (by decide)
            have e7 : vs 7 = gv (!a) (.bool b) := hP 7 (by decide)
            have e8 : vs 8 = gv (!a && b) (.slice (some ad) bl.length c1) := hP 8 (by decide)
            have e9 : vs 9 = gv (!a && b) (iv k) := hP 9 (by decide)
            have e10 : vs 10 = gv (!a && b) (.pointer (some (ad.add k))) := hP 10 (by decide)
            have e11 : vs 11 = gv (!a && b) (iv x) := hP 11 (by decide)
            have e12 : vs 12 = gv (!a && b) (.pointer (some ⟨W4.heap.size, 0, none⟩)) := hP 12 (by decide)
            have e13 : vs 13 = gv (!a && b) (iv o0) := hP 13 (by decide)
            have e14 : vs 14 = gv (!a && b) (.bool c) := hP 14 (by decide)
            have e15 : vs 15 = gv (!a) (.bool (b && c)) := hP 15 (by decide)
            have e16 : vs 16 = .bool g := hP 16 (by decide)
            simp only [putV, List.foldl_cons, List.foldl_nil, List.setIfInBounds_toArray, List.set_cons_zero, List.set_cons_succ, e0, e1, e2, e3, e4, e5, e6, e7, e8, e9, e10, e11, e12, e13, e14, e15, e16]
            have XS8 := Lib.hid hS
            clear e0 e1 e2 e3 e4 e5 e6 e7 e8 e9 e10 e11 e12 e13 e14 e15 e16 hP hall fr_C hS
            have hb0 := HB7.out.only XS8.out (fun e => e)
            have hr0 := HR7.out.only XS8.out (fun e => e)
            have hx0 := cell_keep (HO7.out.trans XS8.out) HX.out
            have hy0 := cell_keep (HO7.out.trans XS8.out) HY.out
            have hO0 := HO7.out.trans XS8.out
            have hc0 := hb0.cell 0
            have hf0 := hb0.frozen 0
            have hc2 := hb0.cell 2
            have hf2 := hb0.frozen 2
            simp only [List.getElem?_toArray, List.getElem?_cons_zero, List.getElem?_cons_succ] at hc0 hc2
            have HX0 := Lib.hid hx0
            have HY0 := Lib.hid hy0
            rcases (show (k = 0 ∧ g = true) ∨ (k ≠ 0 ∧ g = true) ∨ (k ≠ 0 ∧ g = false) from by
              by_cases h0 : k = 0
              · refine .inl ⟨h0, ?_⟩
                rw [← Hg.out, ← Ha.out]
                simp [h0]
              · cases g with
                | true => exact .inr (.inl ⟨h0, rfl⟩)
                | false => exact .inr (.inr ⟨h0, rfl⟩)) with ⟨h0, rfl⟩ | ⟨h0, rfl⟩ | ⟨h0, rfl⟩
            · have hd0 : ((k : Int) == 0) = true := by simp [h0]
              have hd1 : decide ((k : Int) = 0) = true := by simp [h0]
              have Q2 : Hid (q2 = y) := Lib.hid (by rw [← Hq2.out]; exact if_pos h0)
              obtain ⟨p0, hp0⟩ : ∃ z, (if 16 < x then x else 16) = z := ⟨_, rfl⟩
              have P0 : Hid (rf0 bl (k + 1) = p0) := Lib.hid (by rw [E0.out]; exact hp0)
              have HB9 := Lib.hid (show Box _ _ _ (ov p0 p1 q2 o3 p4) from by rw [Q2.out]; exact (hb0.put 0 (iv p0)).put 2 (iv y))
              have HR9 := Lib.hid ((hr0.off (p := ⟨W4.heap.size, 0, none⟩) hne (iv p0)).off (p := ⟨W4.heap.size, 2, none⟩) hne (iv y))
              have HO9 := Lib.hid ((hO0.setCell (p := ⟨W4.heap.size, 0, none⟩) (.inr hle) (iv p0)).setCell (p := ⟨W4.heap.size, 2, none⟩) (.inr hle) (iv y))
              obtain ⟨V1, hV1⟩ : ∃ V, u8.setCell ⟨W4.heap.size, 0, none⟩ (iv p0) = V := ⟨_, rfl⟩
              rw [hV1] at HB9 HR9 HO9
              have hy1 : V1.cell? (bd.add k) = some (iv y) := by rw [← hV1]; exact cell_only ((Only.refl (Just W4.heap.size) u8).setCell (p := ⟨W4.heap.size, 0, none⟩) (.inl rfl) (iv p0)) hy0 HNY.out
              have hc2' : V1.cell? ⟨W4.heap.size, 2, none⟩ = some (iv o2) := by rw [← hV1]; exact (hb0.put 0 (iv p0)).cell 2
              have hf2' : V1.frozen? ⟨W4.heap.size, 2, none⟩ = false := by rw [← hV1]; exact (hb0.put 0 (iv p0)).frozen 2
              obtain ⟨V2, hV2⟩ : ∃ V, V1.setCell ⟨W4.heap.size, 2, none⟩ (iv y) = V := ⟨_, rfl⟩
              rw [hV2] at HB9 HR9 HO9
              have H0 := Lib.hid h0
              clear hb0 hr0 hO0 Ha Hb Hc Hg E0 Hq2 h0
              go_wp2_with fail
              clear hc0 hf0 hc2 hf2 hc2' hf2' hx0 hy0 hy1 hp0 hV1 hV2
              have fr_D1 : ∀ j s, j < 9 → (([some 62, some 63, some 64, some 65, some 66, some 67, some 68, some 69, none] : List (Option Nat)).all fun d => d != some s) = true → ([some 62, some 63, some 64, some 65, some 66, some 67, some 68, some 69, none] : List (Option Nat)).getD j none ≠ some s := by
                intro j s hj ha e
                rw [List.getD_eq_getElem?_getD, List.getElem?_eq_getElem (by exact hj), Option.getD_some] at e
                have := List.all_eq_true.1 ha _ (List.getElem_mem (by exact hj))
                rw [e] at this
                simp at this
              refine region_tel (by kernel_rfl) (fun k0 => ([some 62, some 63, some 64, some 65, some 66, some 67, some 68, some 69, none] : List (Option Nat)).getD k0 none) (PL [eqP (.pointer (some ⟨W4.heap.size, 2, none⟩)), eqP (iv q2), eqP (.slice (some bd) bl.length c2), eqP (iv k), eqP (.pointer (some (bd.add k))), eqP (iv y), eqP (iv p2), eqP (.pointer (some ⟨W4.heap.size, 2, none⟩)), (fun _ _ => True)]) (fun _ _ => True) (StW V2 W4.heap.size 50 (ov p0 p1 q2 o3 p4) (ov p0 p1 p2 o3 p4) 8) 87 9 rfl (by kernel_rfl) (by kernel_rfl) rfl (by kernel_rfl) (by kernel_rfl) (stab_all ⟨fun _ _ _ h _ => h, fun _ _ _ h _ => h, fun _ _ _ h _ => h, fun _ _ _ h _ => h, fun _ _ _ h _ => h, fun _ _ _ h _ => h, fun _ _ _ h _ => h, fun _ _ _ h _ => h, fun _ _ _ h _ => h, trivial⟩) (StW.begin HB9.out) ?stepsD1 (fun vs => [(62, vs 0), (63, vs 1), (64, vs 2), (65, vs 3), (66, vs 4), (67, vs 5), (68, vs 6), (69, vs 7)]) (fun vs => rfl) ?doneD1
              case stepsD1 =>
                refine ⟨?_, ?_, ?_, ?_, ?_, ?_, ?_, ?_, ?_, trivial⟩
                · intro L vs A' u hW hL0 hnd K' hK
                  have hS := hW.wi.s
                  have r5 : A'.tmps[5]? = some (.pointer (some ⟨W4.heap.size, 0, none⟩)) := (hW.out 5 (fun j hj => fr_D1 j 5 hj (by kernel_rfl))).trans rfl
                  go_simp
                  exact hK _ _ (by first | rfl | (show _ = _; simp)) trivial (hS.same (by decide))
                · intro L vs A' u hW hL0 hnd K' hK
                  have hS := hW.wi.s
                  have r62 : A'.tmps[62]? = some (.pointer (some ⟨W4.heap.size, 2, none⟩)) := by
                    obtain ⟨x, e, h⟩ := hW.tel 0 62 (by decide) (hnd 0 (by kernel_rfl)) rfl
                    rw [e]; exact congrArg some h
                  have hL6 := notYet hW.closed (j := 6) rfl (k := 1) (by kernel_rfl) hL0
                  have hL8 := notYet hW.closed (j := 8) rfl (k := 6) (by kernel_rfl) hL6
                  have hc := (hS.low hL8).cell 2
                  simp only [List.getElem?_toArray, List.getElem?_cons_zero, List.getElem?_cons_succ] at hc
                  go_simp
                  exact hK _ _ (by first | rfl | (show _ = _; simp)) trivial (hS.same (by decide))
                · intro L vs A' u hW hL0 hnd K' hK
                  have hS := hW.wi.s
                  have r1 : A'.tmps[1]? = some (.slice (some bd) bl.length c2) := (hW.out 1 (fun j hj => fr_D1 j 1 hj (by kernel_rfl))).trans rfl
                  go_simp
                  exact hK _ _ (by first | rfl | (show _ = _; simp)) trivial (hS.same (by decide))
                · intro L vs A' u hW hL0 hnd K' hK
                  have hS := hW.wi.s
                  have r7 : A'.tmps[7]? = some (iv k) := (hW.out 7 (fun j hj => fr_D1 j 7 hj (by kernel_rfl))).trans rfl
                  go_simp
                  exact hK _ _ (by first | rfl | (show _ = _; simp)) trivial (hS.same (by decide))
                · intro L vs A' u hW hL0 hnd K' hK
                  have hS := hW.wi.s
                  have r64 : A'.tmps[64]? = some (.slice (some bd) bl.length c2) := by
                    obtain ⟨x, e, h⟩ := hW.tel 2 64 (by decide) (hnd 2 (by kernel_rfl)) rfl
                    rw [e]; exact congrArg some h
                  have r65 : A'.tmps[65]? = some (iv k) := by
                    obtain ⟨x, e, h⟩ := hW.tel 3 65 (by decide) (hnd 3 (by kernel_rfl)) rfl
                    rw [e]; exact congrArg some h
                  go_simp
                  exact hK _ _ (by first | rfl | (show _ = _; simp)) trivial (hS.same (by decide))
                · intro L vs A' u hW hL0 hnd K' hK
                  have hS := hW.wi.s
                  have r66 : A'.tmps[66]? = some (.pointer (some (bd.add k))) := by
                    obtain ⟨x, e, h⟩ := hW.tel 4 66 (by decide) (hnd 4 (by kernel_rfl)) rfl
                    rw [e]; exact congrArg some h
                  have hc := cell_only hS.only (cell_keep HO9.out HY.out) HNY.out
                  go_simp
                  exact hK _ _ (by first | rfl | (show _ = _; simp)) trivial (hS.same (by decide))
                · intro L vs A' u hW hL0 hnd K' hK
                  have hS := hW.wi.s
                  have r63 : A'.tmps[63]? = some (iv q2) := by
                    obtain ⟨x, e, h⟩ := hW.tel 1 63 (by decide) (hnd 1 (by kernel_rfl)) rfl
                    rw [e]; exact congrArg some h
                  have r67 : A'.tmps[67]? = some (iv y) := by
                    obtain ⟨x, e, h⟩ := hW.tel 5 67 (by decide) (hnd 5 (by kernel_rfl)) rfl
                    rw [e]; exact congrArg some h
                  have hm := fun ts t => min_i ts t q2 y p2 Hp2.out u
                  go_simp
                  exact hK _ _ rfl trivial (hS.same (by decide))
                · intro L vs A' u hW hL0 hnd K' hK
                  have hS := hW.wi.s
                  have r5 : A'.tmps[5]? = some (.pointer (some ⟨W4.heap.size, 0, none⟩)) := (hW.out 5 (fun j hj => fr_D1 j 5 hj (by kernel_rfl))).trans rfl
                  go_simp
                  exact hK _ _ (by first | rfl | (show _ = _; simp)) trivial (hS.same (by decide))
                · intro L vs A' u hW hL0 hnd K' hK
                  have hS := hW.wi.s
                  have r69 : A'.tmps[69]? = some (.pointer (some ⟨W4.heap.size, 2, none⟩)) := by
                    obtain ⟨x, e, h⟩ := hW.tel 7 69 (by decide) (hnd 7 (by kernel_rfl)) rfl
                    rw [e]; exact congrArg some h
                  have r68 : A'.tmps[68]? = some (iv p2) := by
                    obtain ⟨x, e, h⟩ := hW.tel 6 68 (by decide) (hnd 6 (by kernel_rfl)) rfl
                    rw [e]; exact congrArg some h
                  have hf := (hS.low hL0).frozen 2
                  have hc := (hS.low hL0).cell 2
                  simp only [List.getElem?_toArray, List.getElem?_cons_zero, List.getElem?_cons_succ] at hc
                  go_simp
                  exact hK undef _ trivial trivial (hS.put hL0 2 (iv p2) rfl)
              case doneD1 =>
                intro L vs u12 hS hP hall
                have e0 : vs 0 = .pointer (some ⟨W4.heap.size, 2, none⟩) := hP 0 (by decide)
                have e1 : vs 1 = iv q2 := hP 1 (by decide)
                have e2 : vs 2 = .slice (some bd) bl.length c2 := hP 2 (by decide)
                have e3 : vs 3 = iv k := hP 3 (by decide)
                have e4 : vs 4 = .pointer (some (bd.add k)) := hP 4 (by decide)
                have e5 : vs 5 = iv y := hP 5 (by decide)
                have e6 : vs 6 = iv p2 := hP 6 (by decide)
                have e7 : vs 7 = .pointer (some ⟨W4.heap.size, 2, none⟩) := hP 7 (by decide)
                simp only [putV, List.foldl_cons, List.foldl_nil, List.setIfInBounds_toArray, List.set_cons_zero, List.set_cons_succ, e0, e1, e2, e3, e4, e5, e6, e7]
                have HB12 := Lib.hid (hS.out (hall 8 (by decide)))
                have HR12 := Lib.hid (HR9.out.only hS.only (fun e => hne e))
                have HO12 := Lib.hid (HO9.out.then hS.only (fun i e => .inr (by rw [show i = _ from e]; exact hle)))
                clear e0 e1 e2 e3 e4 e5 e6 e7 hP hall fr_D1 hS
                go_wp2_with fail
                have fr_E1 : ∀ j s, j < 9 → (([some 70, some 71, some 72, some 73, some 74, some 75, some 76, some 77, none] : List (Option Nat)).all fun d => d != some s) = true → ([some 70, some 71, some 72, some 73, some 74, some 75, some 76, some 77, none] : List (Option Nat)).getD j none ≠ some s := by
                  intro j s hj ha e
                  rw [List.getD_eq_getElem?_getD, List.getElem?_eq_getElem (by exact hj), Option.getD_some] at e
                  have := List.all_eq_true.1 ha _ (List.getElem_mem (by exact hj))
                  rw [e] at this
                  simp at this
                refine region_tel (by kernel_rfl) (fun k0 => ([some 70, some 71, some 72, some 73, some 74, some 75, some 76, some 77, none] : List (Option Nat)).getD k0 none) (PL [eqP (.pointer (some ⟨W4.heap.size, 3, none⟩)), eqP (iv o3), eqP (.slice (some bd) bl.length c2), eqP (iv k), eqP (.pointer (some (bd.add k))), eqP (iv y), eqP (iv p3), eqP (.pointer (some ⟨W4.heap.size, 3, none⟩)), (fun _ _ => True)]) (fun _ _ => True) (StW u12 W4.heap.size 50 (ov p0 p1 p2 o3 p4) (ov p0 p1 p2 p3 p4) 8) 87 9 rfl (by kernel_rfl) (by kernel_rfl) rfl (by kernel_rfl) (by kernel_rfl) (stab_all ⟨fun _ _ _ h _ => h, fun _ _ _ h _ => h, fun _ _ _ h _ => h, fun _ _ _ h _ => h, fun _ _ _ h _ => h, fun _ _ _ h _ => h, fun _ _ _ h _ => h, fun _ _ _ h _ => h, fun _ _ _ h _ => h, trivial⟩) (StW.begin HB12.out) ?stepsE1 (fun vs => [(70, vs 0), (71, vs 1), (72, vs 2), (73, vs 3), (74, vs 4), (75, vs 5), (76, vs 6), (77, vs 7)]) (fun vs => rfl) ?doneE1
                case stepsE1 =>
                  refine ⟨?_, ?_, ?_, ?_, ?_, ?_, ?_, ?_, ?_, trivial⟩
                  · intro L vs A' u hW hL0 hnd K' hK
                    have hS := hW.wi.s
                    have r5 : A'.tmps[5]? = some (.pointer (some ⟨W4.heap.size, 0, none⟩)) := (hW.out 5 (fun j hj => fr_E1 j 5 hj (by kernel_rfl))).trans rfl
                    go_simp
                    exact hK _ _ (by first | rfl | (show _ = _; simp)) trivial (hS.same (by decide))
                  · intro L vs A' u hW hL0 hnd K' hK
                    have hS := hW.wi.s
                    have r70 : A'.tmps[70]? = some (.pointer (some ⟨W4.heap.size, 3, none⟩)) := by
                      obtain ⟨x, e, h⟩ := hW.tel 0 70 (by decide) (hnd 0 (by kernel_rfl)) rfl
                      rw [e]; exact congrArg some h
                    have hL6 := notYet hW.closed (j := 6) rfl (k := 1) (by kernel_rfl) hL0
                    have hL8 := notYet hW.closed (j := 8) rfl (k := 6) (by kernel_rfl) hL6
                    have hc := (hS.low hL8).cell 3
                    simp only [List.getElem?_toArray, List.getElem?_cons_zero, List.getElem?_cons_succ] at hc
                    go_simp
                    exact hK _ _ (by first | rfl | (show _ = _; simp)) trivial (hS.same (by decide))
                  · intro L vs A' u hW hL0 hnd K' hK
                    have hS := hW.wi.s
                    have r1 : A'.tmps[1]? = some (.slice (some bd) bl.length c2) := (hW.out 1 (fun j hj => fr_E1 j 1 hj (by kernel_rfl))).trans rfl
                    go_simp
                    exact hK _ _ (by first | rfl | (show _ = _; simp)) trivial (hS.same (by decide))
                  · intro L vs A' u hW hL0 hnd K' hK
                    have hS := hW.wi.s
                    have r7 : A'.tmps[7]? = some (iv k) := (hW.out 7 (fun j hj => fr_E1 j 7 hj (by kernel_rfl))).trans rfl
                    go_simp
                    exact hK _ _ (by first | rfl | (show _ = _; simp)) trivial (hS.same (by decide))
                  · intro L vs A' u hW hL0 hnd K' hK
                    have hS := hW.wi.s
                    have r72 : A'.tmps[72]? = some (.slice (some bd) bl.length c2) := by
                      obtain ⟨x, e, h⟩ := hW.tel 2 72 (by decide) (hnd 2 (by kernel_rfl)) rfl
                      rw [e]; exact congrArg some h
                    have r73 : A'.tmps[73]? = some (iv k) := by
                      obtain ⟨x, e, h⟩ := hW.tel 3 73 (by decide) (hnd 3 (by kernel_rfl)) rfl
                      rw [e]; exact congrArg some h
                    go_simp
                    exact hK _ _ (by first | rfl | (show _ = _; simp)) trivial (hS.same (by decide))
                  · intro L vs A' u hW hL0 hnd K' hK
                    have hS := hW.wi.s
                    have r74 : A'.tmps[74]? = some (.pointer (some (bd.add k))) := by
                      obtain ⟨x, e, h⟩ := hW.tel 4 74 (by decide) (hnd 4 (by kernel_rfl)) rfl
                      rw [e]; exact congrArg some h
                    have hc := cell_only hS.only (cell_keep HO12.out HY.out) HNY.out
                    go_simp
                    exact hK _ _ (by first | rfl | (show _ = _; simp)) trivial (hS.same (by decide))
                  · intro L vs A' u hW hL0 hnd K' hK
                    have hS := hW.wi.s
                    have r71 : A'.tmps[71]? = some (iv o3) := by
                      obtain ⟨x, e, h⟩ := hW.tel 1 71 (by decide) (hnd 1 (by kernel_rfl)) rfl
                      rw [e]; exact congrArg some h
                    have r75 : A'.tmps[75]? = some (iv y) := by
                      obtain ⟨x, e, h⟩ := hW.tel 5 75 (by decide) (hnd 5 (by kernel_rfl)) rfl
                      rw [e]; exact congrArg some h
                    have hm := fun ts t => max_i ts t o3 y p3 Hp3.out u
                    go_simp
                    exact hK _ _ rfl trivial (hS.same (by decide))
                  · intro L vs A' u hW hL0 hnd K' hK
                    have hS := hW.wi.s
                    have r5 : A'.tmps[5]? = some (.pointer (some ⟨W4.heap.size, 0, none⟩)) := (hW.out 5 (fun j hj => fr_E1 j 5 hj (by kernel_rfl))).trans rfl
                    go_simp
                    exact hK _ _ (by first | rfl | (show _ = _; simp)) trivial (hS.same (by decide))
                  · intro L vs A' u hW hL0 hnd K' hK
                    have hS := hW.wi.s
                    have r77 : A'.tmps[77]? = some (.pointer (some ⟨W4.heap.size, 3, none⟩)) := by
                      obtain ⟨x, e, h⟩ := hW.tel 7 77 (by decide) (hnd 7 (by kernel_rfl)) rfl
                      rw [e]; exact congrArg some h
                    have r76 : A'.tmps[76]? = some (iv p3) := by
                      obtain ⟨x, e, h⟩ := hW.tel 6 76 (by decide) (hnd 6 (by kernel_rfl)) rfl
                      rw [e]; exact congrArg some h
                    have hf := (hS.low hL0).frozen 3
                    have hc := (hS.low hL0).cell 3
                    simp only [List.getElem?_toArray, List.getElem?_cons_zero, List.getElem?_cons_succ] at hc
                    go_simp
                    exact hK undef _ trivial trivial (hS.put hL0 3 (iv p3) rfl)
                case doneE1 =>
                  intro L vs u13 hS hP hall
                  have e0 : vs 0 = .pointer (some ⟨W4.heap.size, 3, none⟩) := hP 0 (by decide)
                  have e1 : vs 1 = iv o3 := hP 1 (by decide)
                  have e2 : vs 2 = .slice (some bd) bl.length c2 := hP 2 (by decide)
                  have e3 : vs 3 = iv k := hP 3 (by decide)
                  have e4 : vs 4 = .pointer (some (bd.add k)) := hP 4 (by decide)
                  have e5 : vs 5 = iv y := hP 5 (by decide)
                  have e6 : vs 6 = iv p3 := hP 6 (by decide)
                  have e7 : vs 7 = .pointer (some ⟨W4.heap.size, 3, none⟩) := hP 7 (by decide)
                  simp only [putV, List.foldl_cons, List.foldl_nil, List.setIfInBounds_toArray, List.set_cons_zero, List.set_cons_succ, e0, e1, e2, e3, e4, e5, e6, e7]
                  have HB13 := Lib.hid (hS.out (hall 8 (by decide)))
                  have HR13 := Lib.hid (HR12.out.only hS.only (fun e => hne e))
                  have HO13 := Lib.hid (HO12.out.then hS.only (fun i e => .inr (by rw [show i = _ from e]; exact hle)))
                  clear e0 e1 e2 e3 e4 e5 e6 e7 hP hall fr_E1 hS
                  go_wp2
                  go_roundw
                  case rel => exact ⟨k + 1, hlt, by go_num, HR13.out, by rw [P0.out, E1.out, E2.out, E3.out, E4.out]; exact HB13.out, HO13.out⟩
                  case measure => simp [intOf]; omega
            · have hk0 : ¬ (k : Int) = 0 := by omega
              have Q2 : Hid (q2 = o2) := Lib.hid (by rw [← Hq2.out]; exact if_neg h0)
              obtain ⟨p0, hp0⟩ : ∃ z, (if 16 < x then x else 16) = z := ⟨_, rfl⟩
              have P0 : Hid (rf0 bl (k + 1) = p0) := Lib.hid (by rw [E0.out]; exact hp0)
              have HB9 := Lib.hid (show Box _ _ _ (ov p0 p1 q2 o3 p4) from by rw [Q2.out]; exact hb0.put 0 (iv p0))
              have HR9 := Lib.hid (hr0.off (p := ⟨W4.heap.size, 0, none⟩) hne (iv p0))
              have HO9 := Lib.hid (hO0.setCell (p := ⟨W4.heap.size, 0, none⟩) (.inr hle) (iv p0))
              obtain ⟨V2, hV1⟩ : ∃ V, u8.setCell ⟨W4.heap.size, 0, none⟩ (iv p0) = V := ⟨_, rfl⟩
              rw [hV1] at HB9 HR9 HO9
              clear hb0 hr0 hO0 Ha Hb Hc Hg E0 Hq2
              go_wp2_with fail
              clear hc0 hf0 hc2 hf2 hx0 hy0 hp0 hV1
              have fr_D2 : ∀ j s, j < 9 → (([some 62, some 63, some 64, some 65, some 66, some 67, some 68, some 69, none] : List (Option Nat)).all fun d => d != some s) = true → ([some 62, some 63, some 64, some 65, some 66, some 67, some 68, some 69, none] : List (Option Nat)).getD j none ≠ some s := by
                intro j s hj ha e
                rw [List.getD_eq_getElem?_getD, List.getElem?_eq_getElem (by exact hj), Option.getD_some] at e
                have := List.all_eq_true.1 ha _ (List.getElem_mem (by exact hj))
                rw [e] at this
                simp at this
              refine region_tel (by kernel_rfl) (fun k0 => ([some 62, some 63, some 64, some 65, some 66, some 67, some 68, some 69, none] : List (Option Nat)).getD k0 none) (PL [eqP (.pointer (some ⟨W4.heap.size, 2, none⟩)), eqP (iv q2), eqP (.slice (some bd) bl.length c2), eqP (iv k), eqP (.pointer (some (bd.add k))), eqP (iv y), eqP (iv p2), eqP (.pointer (some ⟨W4.heap.size, 2, none⟩)), (fun _ _ => True)]) (fun _ _ => True) (StW V2 W4.heap.size 50 (ov p0 p1 q2 o3 p4) (ov p0 p1 p2 o3 p4) 8) 87 9 rfl (by kernel_rfl) (by kernel_rfl) rfl (by kernel_rfl) (by kernel_rfl) (stab_all ⟨fun _ _ _ h _ => h, fun _ _ _ h _ => h, fun _ _ _ h _ => h, fun _ _ _ h _ => h, fun _ _ _ h _ => h, fun _ _ _ h _ => h, fun _ _ _ h _ => h, fun _ _ _ h _ => h, fun _ _ _ h _ => h, trivial⟩) (StW.begin HB9.out) ?stepsD2 (fun vs => [(62, vs 0), (63, vs 1), (64, vs 2), (65, vs 3), (66, vs 4), (67, vs 5), (68, vs 6), (69, vs 7)]) (fun vs => rfl) ?doneD2
              case stepsD2 =>
                refine ⟨?_, ?_, ?_, ?_, ?_, ?_, ?_, ?_, ?_, trivial⟩
                · intro L vs A' u hW hL0 hnd K' hK
                  have hS := hW.wi.s
                  have r5 : A'.tmps[5]? = some (.pointer (some ⟨W4.heap.size, 0, none⟩)) := (hW.out 5 (fun j hj => fr_D2 j 5 hj (by kernel_rfl))).trans rfl
                  go_simp
                  exact hK _ _ (by first | rfl | (show _ = _; simp)) trivial (hS.same (by decide))
                · intro L vs A' u hW hL0 hnd K' hK
                  have hS := hW.wi.s
                  have r62 : A'.tmps[62]? = some (.pointer (some ⟨W4.heap.size, 2, none⟩)) := by
                    obtain ⟨x, e, h⟩ := hW.tel 0 62 (by decide) (hnd 0 (by kernel_rfl)) rfl
                    rw [e]; exact congrArg some h
                  have hL6 := notYet hW.closed (j := 6) rfl (k := 1) (by kernel_rfl) hL0
                  have hL8 := notYet hW.closed (j := 8) rfl (k := 6) (by kernel_rfl) hL6
                  have hc := (hS.low hL8).cell 2
                  simp only [List.getElem?_toArray, List.getElem?_cons_zero, List.getElem?_cons_succ] at hc
                  go_simp
                  exact hK _ _ (by first | rfl | (show _ = _; simp)) trivial (hS.same (by decide))
                · intro L vs A' u hW hL0 hnd K' hK
                  have hS := hW.wi.s
                  have r1 : A'.tmps[1]? = some (.slice (some bd) bl.length c2) := (hW.out 1 (fun j hj => fr_D2 j 1 hj (by kernel_rfl))).trans rfl
                  go_simp
                  exact hK _ _ (by first | rfl | (show _ = _; simp)) trivial (hS.same (by decide))
                · intro L vs A' u hW hL0 hnd K' hK
                  have hS := hW.wi.s
                  have r7 : A'.tmps[7]? = some (iv k) := (hW.out 7 (fun j hj => fr_D2 j 7 hj (by kernel_rfl))).trans rfl
                  go_simp
                  exact hK _ _ (by first | rfl | (show _ = _; simp)) trivial (hS.same (by decide))
                · intro L vs A' u hW hL0 hnd K' hK
                  have hS := hW.wi.s
                  have r64 : A'.tmps[64]? = some (.slice (some bd) bl.length c2) := by
                    obtain ⟨x, e, h⟩ := hW.tel 2 64 (by decide) (hnd 2 (by kernel_rfl)) rfl
                    rw [e]; exact congrArg some h
                  have r65 : A'.tmps[65]? = some (iv k) := by
                    obtain ⟨x, e, h⟩ := hW.tel 3 65 (by decide) (hnd 3 (by kernel_rfl)) rfl
                    rw [e]; exact congrArg some h
                  go_simp
                  exact hK _ _ (by first | rfl | (show _ = _; simp)) trivial (hS.same (by decide))
                · intro L vs A' u hW hL0 hnd K' hK
                  have hS := hW.wi.s
                  have r66 : A'.tmps[66]? = some (.pointer (some (bd.add k))) := by
                    obtain ⟨x, e, h⟩ := hW.tel 4 66 (by decide) (hnd 4 (by kernel_rfl)) rfl
                    rw [e]; exact congrArg some h
                  have hc := cell_only hS.only (cell_keep HO9.out HY.out) HNY.out
                  go_simp
                  exact hK _ _ (by first | rfl | (show _ = _; simp)) trivial (hS.same (by decide))
                · intro L vs A' u hW hL0 hnd K' hK
                  have hS := hW.wi.s
                  have r63 : A'.tmps[63]? = some (iv q2) := by
                    obtain ⟨x, e, h⟩ := hW.tel 1 63 (by decide) (hnd 1 (by kernel_rfl)) rfl
                    rw [e]; exact congrArg some h
                  have r67 : A'.tmps[67]? = some (iv y) := by
                    obtain ⟨x, e, h⟩ := hW.tel 5 67 (by decide) (hnd 5 (by kernel_rfl)) rfl
                    rw [e]; exact congrArg some h
                  have hm := fun ts t => min_i ts t q2 y p2 Hp2.out u
                  go_simp
                  exact hK _ _ rfl trivial (hS.same (by decide))
                · intro L vs A' u hW hL0 hnd K' hK
                  have hS := hW.wi.s
                  have r5 : A'.tmps[5]? = some (.pointer (some ⟨W4.heap.size, 0, none⟩)) := (hW.out 5 (fun j hj => fr_D2 j 5 hj (by kernel_rfl))).trans rfl
                  go_simp
                  exact hK _ _ (by first | rfl | (show _ = _; simp)) trivial (hS.same (by decide))
                · intro L vs A' u hW hL0 hnd K' hK
                  have hS := hW.wi.s
                  have r69 : A'.tmps[69]? = some (.pointer (some ⟨W4.heap.size, 2, none⟩)) := by
                    obtain ⟨x, e, h⟩ := hW.tel 7 69 (by decide) (hnd 7 (by kernel_rfl)) rfl
                    rw [e]; exact congrArg some h
                  have r68 : A'.tmps[68]? = some (iv p2) := by
                    obtain ⟨x, e, h⟩ := hW.tel 6 68 (by decide) (hnd 6 (by kernel_rfl)) rfl
                    rw [e]; exact congrArg some h
                  have hf := (hS.low hL0).frozen 2
                  have hc := (hS.low hL0).cell 2
                  simp only [List.getElem?_toArray, List.getElem?_cons_zero, List.getElem?_cons_succ] at hc
                  go_simp
                  exact hK undef _ trivial trivial (hS.put hL0 2 (iv p2) rfl)
              case doneD2 =>
                intro L vs u12 hS hP hall
                have e0 : vs 0 = .pointer (some ⟨W4.heap.size, 2, none⟩) := hP 0 (by decide)
                have e1 : vs 1 = iv q2 := hP 1 (by decide)
                have e2 : vs 2 = .slice (some bd) bl.length c2 := hP 2 (by decide)
                have e3 : vs 3 = iv k := hP 3 (by decide)
                have e4 : vs 4 = .pointer (some (bd.add k)) := hP 4 (by decide)
                have e5 : vs 5 = iv y := hP 5 (by decide)
                have e6 : vs 6 = iv p2 := hP 6 (by decide)
                have e7 : vs 7 = .pointer (some ⟨W4.heap.size, 2, none⟩) := hP 7 (by decide)
                simp only [putV, List.foldl_cons, List.foldl_nil, List.setIfInBounds_toArray, List.set_cons_zero, List.set_cons_succ, e0, e1, e2, e3, e4, e5, e6, e7]
                have HB12 := Lib.hid (hS.out (hall 8 (by decide)))
                have HR12 := Lib.hid (HR9.out.only hS.only (fun e => hne e))
                have HO12 := Lib.hid (HO9.out.then hS.only (fun i e => .inr (by rw [show i = _ from e]; exact hle)))
                clear e0 e1 e2 e3 e4 e5 e6 e7 hP hall fr_D2 hS
                go_wp2_with fail
                have fr_E2 : ∀ j s, j < 9 → (([some 70, some 71, some 72, some 73, some 74, some 75, some 76, some 77, none] : List (Option Nat)).all fun d => d != some s) = true → ([some 70, some 71, some 72, some 73, some 74, some 75, some 76, some 77, none] : List (Option Nat)).getD j none ≠ some s := by
                  intro j s hj ha e
                  rw [List.getD_eq_getElem?_getD, List.getElem?_eq_getElem (by exact hj), Option.getD_some] at e
                  have := List.all_eq_true.1 ha _ (List.getElem_mem (by exact hj))
                  rw [e] at this
                  simp at this
                refine region_tel (by kernel_rfl) (fun k0 => ([some 70, some 71, some 72, some 73, some 74, some 75, some 76, some 77, none] : List (Option Nat)).getD k0 none) (PL [eqP (.pointer (some ⟨W4.heap.size, 3, none⟩)), eqP (iv o3), eqP (.slice (some bd) bl.length c2), eqP (iv k), eqP (.pointer (some (bd.add k))), eqP (iv y), eqP (iv p3), eqP (.pointer (some ⟨W4.heap.size, 3, none⟩)), (fun _ _ => True)]) (fun _ _ => True) (StW u12 W4.heap.size 50 (ov p0 p1 p2 o3 p4) (ov p0 p1 p2 p3 p4) 8) 87 9 rfl (by kernel_rfl) (by kernel_rfl) rfl (by kernel_rfl) (by kernel_rfl) (stab_all ⟨fun _ _ _ h _ => h, fun _ _ _ h _ => h, fun _ _ _ h _ => h, fun _ _ _ h _ => h, fun _ _ _ h _ => h, fun _ _ _ h _ => h, fun _ _ _ h _ => h, fun _ _ _ h _ => h, fun _ _ _ h _ => h, trivial⟩) (StW.begin HB12.out) ?stepsE2 (fun vs => [(70, vs 0), (71, vs 1), (72, vs 2), (73, vs 3), (74, vs 4), (75, vs 5), (76, vs 6), (77, vs 7)]) (fun vs => rfl) ?doneE2
                case stepsE2 =>
                  refine ⟨?_, ?_, ?_, ?_, ?_, ?_, ?_, ?_, ?_, trivial⟩
                  · intro L vs A' u hW hL0 hnd K' hK
                    have hS := hW.wi.s
                    have r5 : A'.tmps[5]? = some (.pointer (some ⟨W4.heap.size, 0, none⟩)) := (hW.out 5 (fun j hj => fr_E2 j 5 hj (by kernel_rfl))).trans rfl
                    go_simp
                    exact hK _ _ (by first | rfl | (show _ = _; simp)) trivial (hS.same (by decide))
                  · intro L vs A' u hW hL0 hnd K' hK
                    have hS := hW.wi.s
                    have r70 : A'.tmps[70]? = some (.pointer (some ⟨W4.heap.size, 3, none⟩)) := by
                      obtain ⟨x, e, h⟩ := hW.tel 0 70 (by decide) (hnd 0 (by kernel_rfl)) rfl
                      rw [e]; exact congrArg some h
                    have hL6 := notYet hW.closed (j := 6) rfl (k := 1) (by kernel_rfl) hL0
                    have hL8 := notYet hW.closed (j := 8) rfl (k := 6) (by kernel_rfl) hL6
                    have hc := (hS.low hL8).cell 3
                    simp only [List.getElem?_toArray, List.getElem?_cons_zero, List.getElem?_cons_succ] at hc
                    go_simp
                    exact hK _ _ (by first | rfl | (show _ = _; simp)) trivial (hS.same (by decide))
                  · intro L vs A' u hW hL0 hnd K' hK
                    have hS := hW.wi.s
                    have r1 : A'.tmps[1]? = some (.slice (some bd) bl.length c2) := (hW.out 1 (fun j hj => fr_E2 j 1 hj (by kernel_rfl))).trans rfl
                    go_simp
                    exact hK _ _ (by first | rfl | (show _ = _; simp)) trivial (hS.same (by decide))
                  · intro L vs A' u hW hL0 hnd K' hK
                    have hS := hW.wi.s
                    have r7 : A'.tmps[7]? = some (iv k) := (hW.out 7 (fun j hj => fr_E2 j 7 hj (by kernel_rfl))).trans rfl
                    go_simp
                    exact hK _ _ (by first | rfl | (show _ = _; simp)) trivial (hS.same (by decide))
                  · intro L vs A' u hW hL0 hnd K' hK
                    have hS := hW.wi.s
                    have r72 : A'.tmps[72]? = some (.slice (some bd) bl.length c2) := by
                      obtain ⟨x, e, h⟩ := hW.tel 2 72 (by decide) (hnd 2 (by kernel_rfl)) rfl
                      rw [e]; exact congrArg some h
                    have r73 : A'.tmps[73]? = some (iv k) := by
                      obtain ⟨x, e, h⟩ := hW.tel 3 73 (by decide) (hnd 3 (by kernel_rfl)) rfl
                      rw [e]; exact congrArg some h
                    go_simp
                    exact hK _ _ (by first | rfl | (show _ = _; simp)) trivial (hS.same (by decide))
                  · intro L vs A' u hW hL0 hnd K' hK
                    have hS := hW.wi.s
                    have r74 : A'.tmps[74]? = some (.pointer (some (bd.add k))) := by
                      obtain ⟨x, e, h⟩ := hW.tel 4 74 (by decide) (hnd 4 (by kernel_rfl)) rfl
                      rw [e]; exact congrArg some h
                    have hc := cell_only hS.only (cell_keep HO12.out HY.out) HNY.out
                    go_simp
                    exact hK _ _ (by first | rfl | (show _ = _; simp)) trivial (hS.same (by decide))
                  · intro L vs A' u hW hL0 hnd K' hK
                    have hS := hW.wi.s
                    have r71 : A'.tmps[71]? = some (iv o3) := by
                      obtain ⟨x, e, h⟩ := hW.tel 1 71 (by decide) (hnd 1 (by kernel_rfl)) rfl
                      rw [e]; exact congrArg some h
                    have r75 : A'.tmps[75]? = some (iv y) := by
                      obtain ⟨x, e, h⟩ := hW.tel 5 75 (by decide) (hnd 5 (by kernel_rfl)) rfl
                      rw [e]; exact congrArg some h
                    have hm := fun ts t => max_i ts t o3 y p3 Hp3.out u
                    go_simp
                    exact hK _ _ rfl trivial (hS.same (by decide))
                  · intro L vs A' u hW hL0 hnd K' hK
                    have hS := hW.wi.s
                    have r5 : A'.tmps[5]? = some (.pointer (some ⟨W4.heap.size, 0, none⟩)) := (hW.out 5 (fun j hj => fr_E2 j 5 hj (by kernel_rfl))).trans rfl
                    go_simp
                    exact hK _ _ (by first | rfl | (show _ = _; simp)) trivial (hS.same (by decide))
                  · intro L vs A' u hW hL0 hnd K' hK
                    have hS := hW.wi.s
                    have r77 : A'.tmps[77]? = some (.pointer (some ⟨W4.heap.size, 3, none⟩)) := by
                      obtain ⟨x, e, h⟩ := hW.tel 7 77 (by decide) (hnd 7 (by kernel_rfl)) rfl
                      rw [e]; exact congrArg some h
                    have r76 : A'.tmps[76]? = some (iv p3) := by
                      obtain ⟨x, e, h⟩ := hW.tel 6 76 (by decide) (hnd 6 (by kernel_rfl)) rfl
                      rw [e]; exact congrArg some h
                    have hf := (hS.low hL0).frozen 3
                    have hc := (hS.low hL0).cell 3
                    simp only [List.getElem?_toArray, List.getElem?_cons_zero, List.getElem?_cons_succ] at hc
                    go_simp
                    exact hK undef _ trivial trivial (hS.put hL0 3 (iv p3) rfl)
                case doneE2 =>
                  intro L vs u13 hS hP hall
                  have e0 : vs 0 = .pointer (some ⟨W4.heap.size, 3, none⟩) := hP 0 (by decide)
                  have e1 : vs 1 = iv o3 := hP 1 (by decide)
                  have e2 : vs 2 = .slice (some bd) bl.length c2 := hP 2 (by decide)
                  have e3 : vs 3 = iv k := hP 3 (by decide)
                  have e4 : vs 4 = .pointer (some (bd.add k)) := hP 4 (by decide)
                  have e5 : vs 5 = iv y := hP 5 (by decide)
                  have e6 : vs 6 = iv p3 := hP 6 (by decide)
                  have e7 : vs 7 = .pointer (some ⟨W4.heap.size, 3, none⟩) := hP 7 (by decide)
                  simp only [putV, List.foldl_cons, List.foldl_nil, List.setIfInBounds_toArray, List.set_cons_zero, List.set_cons_succ, e0, e1, e2, e3, e4, e5, e6, e7]
                  have HB13 := Lib.hid (hS.out (hall 8 (by decide)))
                  have HR13 := Lib.hid (HR12.out.only hS.only (fun e => hne e))
                  have HO13 := Lib.hid (HO12.out.then hS.only (fun i e => .inr (by rw [show i = _ from e]; exact hle)))
                  clear e0 e1 e2 e3 e4 e5 e6 e7 hP hall fr_E2 hS
                  go_wp2
                  go_roundw
                  case rel => exact ⟨k + 1, hlt, by go_num, HR13.out, by rw [P0.out, E1.out, E2.out, E3.out, E4.out]; exact HB13.out, HO13.out⟩
                  case measure => simp [intOf]; omega
            · have hk0 : ¬ (k : Int) = 0 := by omega
              have Q2 : Hid (q2 = o2) := Lib.hid (by rw [← Hq2.out]; exact if_neg h0)
              obtain ⟨p0, hp0⟩ : ∃ z, o0 = z := ⟨_, rfl⟩
              subst hp0
              have P0 : Hid (rf0 bl (k + 1) = o0) := Lib.hid (by rw [E0.out]; simp)
              have HB9 := Lib.hid (show Box _ _ _ (ov o0 p1 q2 o3 p4) from by rw [Q2.out]; exact hb0)
              have HR9 := Lib.hid hr0
              have HO9 := Lib.hid hO0
              clear hb0 hr0 hO0 Ha Hb Hc Hg E0 Hq2
              go_wp2_with fail
              clear hc0 hf0 hc2 hf2 hx0 hy0
              have fr_D3 : ∀ j s, j < 9 → (([some 62, some 63, some 64, some 65, some 66, some 67, some 68, some 69, none] : List (Option Nat)).all fun d => d != some s) = true → ([some 62, some 63, some 64, some 65, some 66, some 67, some 68, some 69, none] : List (Option Nat)).getD j none ≠ some s := by
                intro j s hj ha e
                rw [List.getD_eq_getElem?_getD, List.getElem?_eq_getElem (by exact hj), Option.getD_some] at e
                have := List.all_eq_true.1 ha _ (List.getElem_mem (by exact hj))
                rw [e] at this
                simp at this
              refine region_tel (by kernel_rfl) (fun k0 => ([some 62, some 63, some 64, some 65, some 66, some 67, some 68, some 69, none] : List (Option Nat)).getD k0 none) (PL [eqP (.pointer (some ⟨W4.heap.size, 2, none⟩)), eqP (iv q2), eqP (.slice (some bd) bl.length c2), eqP (iv k), eqP (.pointer (some (bd.add k))), eqP (iv y), eqP (iv p2), eqP (.pointer (some ⟨W4.heap.size, 2, none⟩)), (fun _ _ => True)]) (fun _ _ => True) (StW u8 W4.heap.size 50 (ov o0 p1 q2 o3 p4) (ov o0 p1 p2 o3 p4) 8) 87 9 rfl (by kernel_rfl) (by kernel_rfl) rfl (by kernel_rfl) (by kernel_rfl) (stab_all ⟨fun _ _ _ h _ => h, fun _ _ _ h _ => h, fun _ _ _ h _ => h, fun _ _ _ h _ => h, fun _ _ _ h _ => h, fun _ _ _ h _ => h, fun _ _ _ h _ => h, fun _ _ _ h _ => h, fun _ _ _ h _ => h, trivial⟩) (StW.begin HB9.out) ?stepsD3 (fun vs => [(62, vs 0), (63, vs 1), (64, vs 2), (65, vs 3), (66, vs 4), (67, vs 5), (68, vs 6), (69, vs 7)]) (fun vs => rfl) ?doneD3
              case stepsD3 =>
                refine ⟨?_, ?_, ?_, ?_, ?_, ?_, ?_, ?_, ?_, trivial⟩
                · intro L vs A' u hW hL0 hnd K' hK
                  have hS := hW.wi.s
                  have r5 : A'.tmps[5]? = some (.pointer (some ⟨W4.heap.size, 0, none⟩)) := (hW.out 5 (fun j hj => fr_D3 j 5 hj (by kernel_rfl))).trans rfl
                  go_simp
                  exact hK _ _ (by first | rfl | (show _ = _; simp)) trivial (hS.same (by decide))
                · intro L vs A' u hW hL0 hnd K' hK
                  have hS := hW.wi.s
                  have r62 : A'.tmps[62]? = some (.pointer (some ⟨W4.heap.size, 2, none⟩)) := by
                    obtain ⟨x, e, h⟩ := hW.tel 0 62 (by decide) (hnd 0 (by kernel_rfl)) rfl
                    rw [e]; exact congrArg some h
                  have hL6 := notYet hW.closed (j := 6) rfl (k := 1) (by kernel_rfl) hL0
                  have hL8 := notYet hW.closed (j := 8) rfl (k := 6) (by kernel_rfl) hL6
                  have hc := (hS.low hL8).cell 2
                  simp only [List.getElem?_toArray, List.getElem?_cons_zero, List.getElem?_cons_succ] at hc
                  go_simp
                  exact hK _ _ (by first | rfl | (show _ = _; simp)) trivial (hS.same (by decide))
                · intro L vs A' u hW hL0 hnd K' hK
                  have hS := hW.wi.s
                  have r1 : A'.tmps[1]? = some (.slice (some bd) bl.length c2) := (hW.out 1 (fun j hj => fr_D3 j 1 hj (by kernel_rfl))).trans rfl
                  go_simp
                  exact hK _ _ (by first | rfl | (show _ = _; simp)) trivial (hS.same (by decide))
                · intro L vs A' u hW hL0 hnd K' hK
                  have hS := hW.wi.s
                  have r7 : A'.tmps[7]? = some (iv k) := (hW.out 7 (fun j hj => fr_D3 j 7 hj (by kernel_rfl))).trans rfl
                  go_simp
                  exact hK _ _ (by first | rfl | (show _ = _; simp)) trivial (hS.same (by decide))
                · intro L vs A' u hW hL0 hnd K' hK
                  have hS := hW.wi.s
                  have r64 : A'.tmps[64]? = some (.slice (some bd) bl.length c2) := by
                    obtain ⟨x, e, h⟩ := hW.tel 2 64 (by decide) (hnd 2 (by kernel_rfl)) rfl
                    rw [e]; exact congrArg some h
                  have r65 : A'.tmps[65]? = some (iv k) := by
                    obtain ⟨x, e, h⟩ := hW.tel 3 65 (by decide) (hnd 3 (by kernel_rfl)) rfl
                    rw [e]; exact congrArg some h
                  go_simp
                  exact hK _ _ (by first | rfl | (show _ = _; simp)) trivial (hS.same (by decide))
                · intro L vs A' u hW hL0 hnd K' hK
                  have hS := hW.wi.s
                  have r66 : A'.tmps[66]? = some (.pointer (some (bd.add k))) := by
                    obtain ⟨x, e, h⟩ := hW.tel 4 66 (by decide) (hnd 4 (by kernel_rfl)) rfl
                    rw [e]; exact congrArg some h
                  have hc := cell_only hS.only (cell_keep HO9.out HY.out) HNY.out
                  go_simp
                  exact hK _ _ (by first | rfl | (show _ = _; simp)) trivial (hS.same (by decide))
                · intro L vs A' u hW hL0 hnd K' hK
                  have hS := hW.wi.s
                  have r63 : A'.tmps[63]? = some (iv q2) := by
                    obtain ⟨x, e, h⟩ := hW.tel 1 63 (by decide) (hnd 1 (by kernel_rfl)) rfl
                    rw [e]; exact congrArg some h
                  have r67 : A'.tmps[67]? = some (iv y) := by
                    obtain ⟨x, e, h⟩ := hW.tel 5 67 (by decide) (hnd 5 (by kernel_rfl)) rfl
                    rw [e]; exact congrArg some h
                  have hm := fun ts t => min_i ts t q2 y p2 Hp2.out u
                  go_simp
                  exact hK _ _ rfl trivial (hS.same (by decide))
                · intro L vs A' u hW hL0 hnd K' hK
                  have hS := hW.wi.s
                  have r5 : A'.tmps[5]? = some (.pointer (some ⟨W4.heap.size, 0, none⟩)) := (hW.out 5 (fun j hj => fr_D3 j 5 hj (by kernel_rfl))).trans rfl
                  go_simp
                  exact hK _ _ (by first | rfl | (show _ = _; simp)) trivial (hS.same (by decide))
                · intro L vs A' u hW hL0 hnd K' hK
                  have hS := hW.wi.s
                  have r69 : A'.tmps[69]? = some (.pointer (some ⟨W4.heap.size, 2, none⟩)) := by
                    obtain ⟨x, e, h⟩ := hW.tel 7 69 (by decide) (hnd 7 (by kernel_rfl)) rfl
                    rw [e]; exact congrArg some h
                  have r68 : A'.tmps[68]? = some (iv p2) := by
                    obtain ⟨x, e, h⟩ := hW.tel 6 68 (by decide) (hnd 6 (by kernel_rfl)) rfl
                    rw [e]; exact congrArg some h
                  have hf := (hS.low hL0).frozen 2
                  have hc := (hS.low hL0).cell 2
                  simp only [List.getElem?_toArray, List.getElem?_cons_zero, List.getElem?_cons_succ] at hc
                  go_simp
                  exact hK undef _ trivial trivial (hS.put hL0 2 (iv p2) rfl)
              case doneD3 =>
                intro L vs u12 hS hP hall
                have e0 : vs 0 = .pointer (some ⟨W4.heap.size, 2, none⟩) := hP 0 (by decide)
                have e1 : vs 1 = iv q2 := hP 1 (by decide)
                have e2 : vs 2 = .slice (some bd) bl.length c2 := hP 2 (by decide)
                have e3 : vs 3 = iv k := hP 3 (by decide)
                have e4 : vs 4 = .pointer (some (bd.add k)) := hP 4 (by decide)
                have e5 : vs 5 = iv y := hP 5 (by decide)
                have e6 : vs 6 = iv p2 := hP 6 (by decide)
                have e7 : vs 7 = .pointer (some ⟨W4.heap.size, 2, none⟩) := hP 7 (by decide)
                simp only [putV, List.foldl_cons, List.foldl_nil, List.setIfInBounds_toArray, List.set_cons_zero, List.set_cons_succ, e0, e1, e2, e3, e4, e5, e6, e7]
                have HB12 := Lib.hid (hS.out (hall 8 (by decide)))
                have HR12 := Lib.hid (HR9.out.only hS.only (fun e => hne e))
                have HO12 := Lib.hid (HO9.out.then hS.only (fun i e => .inr (by rw [show i = _ from e]; exact hle)))
                clear e0 e1 e2 e3 e4 e5 e6 e7 hP hall fr_D3 hS
                go_wp2_with fail
                have fr_E3 : ∀ j s, j < 9 → (([some 70, some 71, some 72, some 73, some 74, some 75, some 76, some 77, none] : List (Option Nat)).all fun d => d != some s) = true → ([some 70, some 71, some 72, some 73, some 74, some 75, some 76, some 77, none] : List (Option Nat)).getD j none ≠ some s := by
                  intro j s hj ha e
                  rw [List.getD_eq_getElem?_getD, List.getElem?_eq_getElem (by exact hj), Option.getD_some] at e
                  have := List.all_eq_true.1 ha _ (List.getElem_mem (by exact hj))
                  rw [e] at this
                  simp at this
                refine region_tel (by kernel_rfl) (fun k0 => ([some 70, some 71, some 72, some 73, some 74, some 75, some 76, some 77, none] : List (Option Nat)).getD k0 none) (PL [eqP (.pointer (some ⟨W4.heap.size, 3, none⟩)), eqP (iv o3), eqP (.slice (some bd) bl.length c2), eqP (iv k), eqP (.pointer (some (bd.add k))), eqP (iv y), eqP (iv p3), eqP (.pointer (some ⟨W4.heap.size, 3, none⟩)), (fun _ _ => True)]) (fun _ _ => True) (StW u12 W4.heap.size 50 (ov o0 p1 p2 o3 p4) (ov o0 p1 p2 p3 p4) 8) 87 9 rfl (by kernel_rfl) (by kernel_rfl) rfl (by kernel_rfl) (by kernel_rfl) (stab_all ⟨fun _ _ _ h _ => h, fun _ _ _ h _ => h, fun _ _ _ h _ => h, fun _ _ _ h _ => h, fun _ _ _ h _ => h, fun _ _ _ h _ => h, fun _ _ _ h _ => h, fun _ _ _ h _ => h, fun _ _ _ h _ => h, trivial⟩) (StW.begin HB12.out) ?stepsE3 (fun vs => [(70, vs 0), (71, vs 1), (72, vs 2), (73, vs 3), (74, vs 4), (75, vs 5), (76, vs 6), (77, vs 7)]) (fun vs => rfl) ?doneE3
                case stepsE3 =>
                  refine ⟨?_, ?_, ?_, ?_, ?_, ?_, ?_, ?_, ?_, trivial⟩
                  · intro L vs A' u hW hL0 hnd K' hK
                    have hS := hW.wi.s
                    have r5 : A'.tmps[5]? = some (.pointer (some ⟨W4.heap.size, 0, none⟩)) := (hW.out 5 (fun j hj => fr_E3 j 5 hj (by kernel_rfl))).trans rfl
                    go_simp
                    exact hK _ _ (by first | rfl | (show _ = _; simp)) trivial (hS.same (by decide))
                  · intro L vs A' u hW hL0 hnd K' hK
                    have hS := hW.wi.s
                    have r70 : A'.tmps[70]? = some (.pointer (some ⟨W4.heap.size, 3, none⟩)) := by
                      obtain ⟨x, e, h⟩ := hW.tel 0 70 (by decide) (hnd 0 (by kernel_rfl)) rfl
                      rw [e]; exact congrArg some h
                    have hL6 := notYet hW.closed (j := 6) rfl (k := 1) (by kernel_rfl) hL0
                    have hL8 := notYet hW.closed (j := 8) rfl (k := 6) (by kernel_rfl) hL6
                    have hc := (hS.low hL8).cell 3
                    simp only [List.getElem?_toArray, List.getElem?_cons_zero, List.getElem?_cons_succ] at hc
                    go_simp
                    exact hK _ _ (by first | rfl | (show _ = _; simp)) trivial (hS.same (by decide))
                  · intro L vs A' u hW hL0 hnd K' hK
                    have hS := hW.wi.s
                    have r1 : A'.tmps[1]? = some (.slice (some bd) bl.length c2) := (hW.out 1 (fun j hj => fr_E3 j 1 hj (by kernel_rfl))).trans rfl
                    go_simp
                    exact hK _ _ (by first | rfl | (show _ = _; simp)) trivial (hS.same (by decide))
                  · intro L vs A' u hW hL0 hnd K' hK
                    have hS := hW.wi.s
                    have r7 : A'.tmps[7]? = some (iv k) := (hW.out 7 (fun j hj => fr_E3 j 7 hj (by kernel_rfl))).trans rfl
                    go_simp
                    exact hK _ _ (by first | rfl | (show _ = _; simp)) trivial (hS.same (by decide))
                  · intro L vs A' u hW hL0 hnd K' hK
                    have hS := hW.wi.s
                    have r72 : A'.tmps[72]? = some (.slice (some bd) bl.length c2) := by
                      obtain ⟨x, e, h⟩ := hW.tel 2 72 (by decide) (hnd 2 (by kernel_rfl)) rfl
                      rw [e]; exact congrArg some h
                    have r73 : A'.tmps[73]? = some (iv k) := by
                      obtain ⟨x, e, h⟩ := hW.tel 3 73 (by decide) (hnd 3 (by kernel_rfl)) rfl
                      rw [e]; exact congrArg some h
                    go_simp
                    exact hK _ _ (by first | rfl | (show _ = _; simp)) trivial (hS.same (by decide))
                  · intro L vs A' u hW hL0 hnd K' hK
                    have hS := hW.wi.s
                    have r74 : A'.tmps[74]? = some (.pointer (some (bd.add k))) := by
                      obtain ⟨x, e, h⟩ := hW.tel 4 74 (by decide) (hnd 4 (by kernel_rfl)) rfl
                      rw [e]; exact congrArg some h
                    have hc := cell_only hS.only (cell_keep HO12.out HY.out) HNY.out
                    go_simp
                    exact hK _ _ (by first | rfl | (show _ = _; simp)) trivial (hS.same (by decide))
                  · intro L vs A' u hW hL0 hnd K' hK
                    have hS := hW.wi.s
                    have r71 : A'.tmps[71]? = some (iv o3) := by
                      obtain ⟨x, e, h⟩ := hW.tel 1 71 (by decide) (hnd 1 (by kernel_rfl)) rfl
                      rw [e]; exact congrArg some h
                    have r75 : A'.tmps[75]? = some (iv y) := by
                      obtain ⟨x, e, h⟩ := hW.tel 5 75 (by decide) (hnd 5 (by kernel_rfl)) rfl
                      rw [e]; exact congrArg some h
                    have hm := fun ts t => max_i ts t o3 y p3 Hp3.out u
                    go_simp
                    exact hK _ _ rfl trivial (hS.same (by decide))
                  · intro L vs A' u hW hL0 hnd K' hK
                    have hS := hW.wi.s
                    have r5 : A'.tmps[5]? = some (.pointer (some ⟨W4.heap.size, 0, none⟩)) := (hW.out 5 (fun j hj => fr_E3 j 5 hj (by kernel_rfl))).trans rfl
                    go_simp
                    exact hK _ _ (by first | rfl | (show _ = _; simp)) trivial (hS.same (by decide))
                  · intro L vs A' u hW hL0 hnd K' hK
                    have hS := hW.wi.s
                    have r77 : A'.tmps[77]? = some (.pointer (some ⟨W4.heap.size, 3, none⟩)) := by
                      obtain ⟨x, e, h⟩ := hW.tel 7 77 (by decide) (hnd 7 (by kernel_rfl)) rfl
                      rw [e]; exact congrArg some h
                    have r76 : A'.tmps[76]? = some (iv p3) := by
                      obtain ⟨x, e, h⟩ := hW.tel 6 76 (by decide) (hnd 6 (by kernel_rfl)) rfl
                      rw [e]; exact congrArg some h
                    have hf := (hS.low hL0).frozen 3
                    have hc := (hS.low hL0).cell 3
                    simp only [List.getElem?_toArray, List.getElem?_cons_zero, List.getElem?_cons_succ] at hc
                    go_simp
                    exact hK undef _ trivial trivial (hS.put hL0 3 (iv p3) rfl)
                case doneE3 =>
                  intro L vs u13 hS hP hall
                  have e0 : vs 0 = .pointer (some ⟨W4.heap.size, 3, none⟩) := hP 0 (by decide)
                  have e1 : vs 1 = iv o3 := hP 1 (by decide)
                  have e2 : vs 2 = .slice (some bd) bl.length c2 := hP 2 (by decide)
                  have e3 : vs 3 = iv k := hP 3 (by decide)
                  have e4 : vs 4 = .pointer (some (bd.add k)) := hP 4 (by decide)
                  have e5 : vs 5 = iv y := hP 5 (by decide)
                  have e6 : vs 6 = iv p3 := hP 6 (by decide)
                  have e7 : vs 7 = .pointer (some ⟨W4.heap.size, 3, none⟩) := hP 7 (by decide)
                  simp only [putV, List.foldl_cons, List.foldl_nil, List.setIfInBounds_toArray, List.set_cons_zero, List.set_cons_succ, e0, e1, e2, e3, e4, e5, e6, e7]
                  have HB13 := Lib.hid (hS.out (hall 8 (by decide)))
                  have HR13 := Lib.hid (HR12.out.only hS.only (fun e => hne e))
                  have HO13 := Lib.hid (HO12.out.then hS.only (fun i e => .inr (by rw [show i = _ from e]; exact hle)))
                  clear e0 e1 e2 e3 e4 e5 e6 e7 hP hall fr_E3 hS
                  go_wp2
                  go_roundw
                  case rel => exact ⟨k + 1, hlt, by go_num, HR13.out, by rw [P0.out, E1.out, E2.out, E3.out, E4.out]; exact HB13.out, HO13.out⟩
                  case measure => simp [intOf]; omega
    · have hlti : ¬ (k : Int) < (bl.length : Int) := by omega
      obtain rfl : k = bl.length := by omega
      rw [List.take_length, List.take_of_length_le (by rw [Hlen.out]; exact Nat.le_refl _)] at hb5
      have HT1 := Lib.hid (frame_any wr (minL by_))
      have HT2 : Hid (∀ u, Calls Try.prog 27 #[iv (maxL (0 :: by_))] u fun e w' => e = .returned (iv (toldV (maxL (0 :: by_)))) ∧ u = w') := Lib.hid (fun u => frame_any u _)
      have HF : Hid (rfA bl by_ = [rf0 bl bl.length, maxL (16 :: bl), toldV (minL by_), toldV (maxL (0 :: by_)), bl.sum]) := Lib.hid rfl
      generalize rf0 bl bl.length = o0 at *
      generalize maxL (16 :: bl) = o1 at *
      generalize minL by_ = o2 at *
      generalize maxL (0 :: by_) = o3 at *
      generalize bl.sum = o4 at *
      generalize toldV o2 = t2 at *
      generalize toldV o3 = t3 at *
      have hc2 := hb5.cell 2
      have hf2 := hb5.frozen 2
      simp only [List.getElem?_toArray, List.getElem?_cons_zero, List.getElem?_cons_succ] at hc2
      have hq := hb5.put 2 (iv t2)
      have hr := hb4.off (p := ⟨W4.heap.size, 2, none⟩) hne (iv t2)
      have hO := ho.setCell (p := ⟨W4.heap.size, 2, none⟩) (.inr hle) (iv t2)
      obtain ⟨V1, hV1⟩ : ∃ V, wr.setCell ⟨W4.heap.size, 2, none⟩ (iv t2) = V := ⟨_, rfl⟩
      rw [hV1] at hq hr hO
      have hc3 := hq.cell 3
      have hf3 := hq.frozen 3
      have hq2 := hq.put 3 (iv t3)
      have hr2 := hr.off (p := ⟨W4.heap.size, 3, none⟩) hne (iv t3)
      have hO2 := hO.setCell (p := ⟨W4.heap.size, 3, none⟩) (.inr hle) (iv t3)
      obtain ⟨V2, hV2⟩ : ∃ V, V1.setCell ⟨W4.heap.size, 3, none⟩ (iv t3) = V := ⟨_, rfl⟩
      rw [hV2] at hq2 hr2 hO2
      have hc3' : V1.cell? ⟨W4.heap.size, 3, none⟩ = some (iv o3) := hc3
      have HQ := Lib.hid (show Box V2 W4.heap.size 50 (ov o0 o1 t2 t3 o4) from hq2)
      have HR := Lib.hid hr2
      have HOf := Lib.hid hO2
      have HC3 := Lib.hid hc3'
      clear hb4 hb5 ho hq hr hO hq2 hr2 hO2 hc3 hc3'
      go_wp2_with fail
      refine (HT1.out).mono ?_
      rintro e w2 ⟨rfl, rfl⟩
      have hc3 := HC3.out
      go_wp2_with fail
      refine (HT2.out _).mono ?_
      rintro e w3 ⟨rfl, rfl⟩
      go_wp2_with (first
        | (refine wpList_load_row rfl 50 (.tmp 5) rfl W4.heap.size rfl 50 _ (0, 0) _ HQ.out Try.underlying50 rfl (by kernel_rfl) ?_)
        | (refine wpList_store_row5 rfl (.tmp 4) (.tmp 86) rfl rfl w.heap.size (ov 0 0 0 0 0) (ov o0 o1 t2 t3 o4) rfl rfl HR.out (by kernel_rfl) rfl (by simp [Value.oneCell']) ?_)
        | fail)
      intro Uf hBf hof
      have HBf := Lib.hid hBf
      have HFin := Lib.hid (HOf.out.then hof (fun i e => .inr (by cases e; exact Nat.le_refl _)))
      clear hBf hof
      go_wp2
      refine bodyPost_ret (v := .agg (ov o0 o1 t2 t3 o4)) ?_ rfl ⟨by rw [HF.out] <;> rfl, HFin.out⟩
      exact results_cell_row rfl _ _ w.heap.size 50 (ov o0 o1 t2 t3 o4) (0, 0) _ rfl HBf.out Try.underlying50 rfl (by kernel_rfl)
end Go.Proofs.Ytllpeknjnhdbmaa
