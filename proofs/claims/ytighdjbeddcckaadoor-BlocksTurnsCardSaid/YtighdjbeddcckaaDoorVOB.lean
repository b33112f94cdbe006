/-
  Arguments that came in, opened: points, bytes, blocks.
-/
import Derived.Test.YtighdjbeddcckaaDoorVC
import Derived.ProofKit
import Derived.OpenShut
import Derived.Lib.SmallJoins
import Derived.Deep.Slices
import Derived.SizedLaws
import Derived.Deep.Strs
import Derived.Deep.Fields
namespace Go.Proofs.YtighdjbeddcckaaDoor
open Go.ChangeShapes Go.WideShapes Go.ChangeAt Go.RowKit Go.Joins Go.Deep

def i64 (n : Int) : Prop := -9223372036854775808 ≤ n ∧ n ≤ 9223372036854775807
theorem Tryd.own : ownKnob Tryd.prog.godebug = none := by kernel_rfl
theorem Tryd.laidOut : laidOutB Tryd.prog = true := by kernel_rfl

section
variable {H : Type} {enc : TypeId × Value → H} {w : World}
theorem i64_of_wf {n : Int} (h : (Lit.int .i64 n).wf = true) : i64 n := by
  have := h
  simp [Lit.wf, IntKind.min, IntKind.max, IntKind.signed, IntKind.bits] at this
  exact ⟨by omega, by omega⟩
theorem byte_of_wf {n : Int} (h : (Lit.int .u8 n).wf = true) : ∃ x : Nat, n = (x : Int) ∧ x < 256 := by
  have := h
  simp [Lit.wf, IntKind.min, IntKind.max, IntKind.signed, IntKind.bits] at this
  exact ⟨n.toNat, by omega, by omega⟩
theorem one_int {n : Nat} {b : Nat} {c : Value} {y : DataW H × List MemPlace} (h : DataW.trod enc Tryd.prog w b (fun _ => true) true n 3 [c] = some y) : ∃ x, c = iv x ∧ i64 x := by
  obtain ⟨x, e, _, w0⟩ := DataW.trod_int Tryd.underlying3 h
  simp at e
  exact ⟨x, e, i64_of_wf w0⟩
theorem one_byte {n : Nat} {b : Nat} {c : Value} {y : DataW H × List MemPlace} (h : DataW.trod enc Tryd.prog w b (fun _ => true) true n 5 [c] = some y) : ∃ x : Nat, c = byt x ∧ x < 256 := by
  obtain ⟨x, e, _, w0⟩ := DataW.trod_int Tryd.underlying5 h
  simp at e
  obtain ⟨k, rfl, hk⟩ := byte_of_wf w0
  exact ⟨k, e, hk⟩
theorem one_field {n b : Nat} {c : Value} {L : List Value} {i : Nat} {y : Option (DataW H × List MemPlace)} {t : TypeId} (h : DataW.trod enc Tryd.prog w b (fun _ => true) true n t ((L.drop i).take (Tryd.prog.cellsOf t)) = y) (ht : t = 3) (hy : y.isSome = true) (hc : L[i]? = some c) : ∃ x, c = iv x ∧ i64 x := by
  subst ht
  have hc1 : Tryd.prog.cellsOf 3 = 1 := by kernel_rfl
  obtain ⟨z, hz⟩ := Option.isSome_iff_exists.1 hy
  obtain ⟨hi, rfl⟩ := List.getElem?_eq_some_iff.1 hc
  rw [hc1, List.drop_eq_getElem_cons hi, List.take_succ_cons, List.take_zero, hz] at h
  exact one_int h
set_option maxRecDepth 100000 in
/-- points that came in -/
theorem open_points {ts : List TypeId} {ds : List (DataW H)} (hsz : (DataW.weightsEach Tryd.prog ts ds).all (· ≤ reachBytes) = true) {j : Nat} {A : Option Addr} {len cap : Nat} {d : DataW H} {p : List MemPlace} (ht : ts[j]? = some 42) (hd : ds[j]? = some d)
    (h : DataW.Trod enc Tryd.prog w 0 (fun _ => true) true 42 (.slice A len cap) d p) : ∃ l, TSrc w (.slice A len cap) l := by
  obtain ⟨fuel, hf⟩ := h
  have hb16 : Tryd.prog.bytesOf 46 = 24 := by kernel_rfl
  have hC : Tryd.prog.cellsOf 46 = 3 := by kernel_rfl
  have hs : ∀ el sp, d = .slice el sp → el.length + sp.length ≤ 140737488355328 := fun el sp e => by
    have h1 : (el.length + sp.length) * Tryd.prog.bytesOf 46 ∈ d.weights Tryd.prog 42 := by rw [e]; simp [DataW.weights, Tryd.underlying42]
    have h3 := List.all_eq_true.1 hsz _ (DataW.weights_mem_each ht hd _ h1)
    rw [hb16] at h3
    simp at h3
    unfold reachBytes at h3
    omega
  rcases Go.Deep.open_slice Tryd.underlying42 hf with ⟨hcs, _⟩ | ⟨a, l, c, m, n, D, Pl, hcs, _, hl, _, hm, hx, hi⟩
  · simp [Value.cells] at hcs
    obtain ⟨rfl, rfl, rfl⟩ := hcs
    exact ⟨[], TSrc.nil w⟩
  · simp [Value.cells] at hcs
    obtain ⟨rfl, rfl, rfl⟩ := hcs
    simp only [Prod.mk.injEq] at hx
    have hsm := hs _ _ hx.1
    simp only [List.length_map, List.length_range] at hsm
    have hml : len ≤ m := by rw [hm]; simp only [if_true]; exact hl
    have key : ∀ i, i < len → ∃ q : Pt, w.cell? (a.add (i * 3)) = some (iv q.1) ∧ w.cell? (a.add (i * 3 + 1)) = some (iv q.2.1) ∧ w.cell? (a.add (i * 3 + 2)) = some (iv q.2.2) ∧ F3 q := by
      intro i hil
      obtain ⟨cs', hc, ht'⟩ := hi i (by omega)
      rw [hC] at hc
      obtain ⟨_, hcl, hat⟩ := World.cells?_some hc
      obtain ⟨xs, n', _, _, _, hlen, hg⟩ := DataW.trod_struct Tryd.underlying46 ht'
      have hs2 : ∀ j, j < 3 → (xs[j]?).isSome = true := fun j hj => by rw [List.getElem?_eq_getElem (by rw [hlen]; exact hj)]; rfl
      match cs', hcl with
      | [c0, c1, c2], _ =>
        obtain ⟨x, rfl, hx1⟩ := one_field (c := c0) (i := 0) (hg 0 _ rfl) rfl (hs2 0 (by decide)) rfl
        obtain ⟨y, rfl, hy1⟩ := one_field (c := c1) (i := 1) (hg 1 _ rfl) rfl (hs2 1 (by decide)) rfl
        obtain ⟨z, rfl, hz1⟩ := one_field (c := c2) (i := 2) (hg 2 _ rfl) rfl (hs2 2 (by decide)) rfl
        refine ⟨(x, y, z), ?_, ?_, ?_, hx1, hy1, hz1⟩
        · have := hat 0 (by decide)
          rw [Go.Deep.add_add] at this
          exact this
        · have := hat 1 (by decide)
          rw [Go.Deep.add_add] at this
          exact this
        · have := hat 2 (by decide)
          rw [Go.Deep.add_add] at this
          exact this
    obtain ⟨L, hLl, hL⟩ : ∃ L : List Pt, L.length = len ∧ ∀ i, (h : i < L.length) → w.cell? (a.add (i * 3)) = some (iv L[i].1) ∧ w.cell? (a.add (i * 3 + 1)) = some (iv L[i].2.1) ∧ w.cell? (a.add (i * 3 + 2)) = some (iv L[i].2.2) ∧ F3 L[i] := by
      have mk : ∀ n, n ≤ len → ∃ L : List Pt, L.length = n ∧ ∀ i, (h : i < L.length) → w.cell? (a.add (i * 3)) = some (iv L[i].1) ∧ w.cell? (a.add (i * 3 + 1)) = some (iv L[i].2.1) ∧ w.cell? (a.add (i * 3 + 2)) = some (iv L[i].2.2) ∧ F3 L[i] := by
        intro n
        induction n with
        | zero => intro _; exact ⟨[], rfl, fun i h => by simp at h⟩
        | succ n ih =>
          intro hn
          obtain ⟨L, hl1, hl2⟩ := ih (by omega)
          obtain ⟨q, hq⟩ := key n (by omega)
          refine ⟨L ++ [q], by simp [hl1], fun i h => ?_⟩
          by_cases e : i < L.length
          · rw [List.getElem_append_left e]; exact hl2 i e
          · have : i = n := by simp at h; omega
            subst this
            rw [List.getElem_append_right (by omega)]
            simpa using hq
      exact mk len (Nat.le_refl _)
    refine ⟨L, ⟨⟨some a, cap, by rw [hLl], by omega, fun j hj => ⟨a, rfl, (hL j hj).1, (hL j hj).2.1, (hL j hj).2.2.1⟩⟩, by omega, fun q hq => ?_⟩⟩
    obtain ⟨i, hi', rfl⟩ := List.getElem_of_mem hq
    exact (hL i hi').2.2.2
set_option maxRecDepth 100000 in
/-- bytes that came in -/
theorem open_bytes {ts : List TypeId} {ds : List (DataW H)} (hsz : (DataW.weightsEach Tryd.prog ts ds).all (· ≤ reachBytes) = true) {j : Nat} {A : Option Addr} {len cap : Nat} {d : DataW H} {p : List MemPlace} (ht : ts[j]? = some 29) (hd : ds[j]? = some d)
    (h : DataW.Trod enc Tryd.prog w 0 (fun _ => true) true 29 (.slice A len cap) d p) : ∃ bs : List Nat, Src w (.slice A len cap) bs ∧ len ≤ cap := by
  obtain ⟨fuel, hf⟩ := h
  have hb8 : Tryd.prog.bytesOf 5 = 1 := by kernel_rfl
  have hs : ∀ el sp, d = .slice el sp → el.length + sp.length ≤ 140737488355328 := fun el sp e => by
    have h1 : (el.length + sp.length) * Tryd.prog.bytesOf 5 ∈ d.weights Tryd.prog 29 := by rw [e]; simp [DataW.weights, Tryd.underlying29]
    have h3 := List.all_eq_true.1 hsz _ (DataW.weights_mem_each ht hd _ h1)
    rw [hb8] at h3
    simp at h3
    unfold reachBytes at h3
    omega
  rcases open_ints Tryd.underlying29 Tryd.underlying5 (by kernel_rfl) hf with ⟨hcs, _⟩ | ⟨x, l, c, zs, hcs, _, hl, hm, hz, hx, hcell, hwz⟩
  · simp [Value.cells] at hcs
    obtain ⟨rfl, rfl, rfl⟩ := hcs
    exact ⟨[], Src.nil w, Nat.le_refl _⟩
  · simp [Value.cells] at hcs
    obtain ⟨rfl, rfl, rfl⟩ := hcs
    have hz' : zs.length = cap := by simpa using hz
    simp only [Prod.mk.injEq] at hx
    have hsm := hs _ _ hx.1
    simp only [lits, List.length_map, List.length_take, List.length_drop] at hsm
    have hln : ((zs.take len).map Int.toNat).length = len := by rw [List.length_map, List.length_take, Nat.min_eq_left (by omega)]
    refine ⟨(zs.take len).map Int.toNat, ⟨⟨some x, cap, by rw [hln], fun j hj => ⟨x, rfl, ?_⟩⟩, by omega, fun y hy => ?_⟩, hl⟩
    · rw [hln] at hj
      have hjz : j < zs.length := by omega
      obtain ⟨k, hk, _⟩ := byte_of_wf (hwz zs[j] (List.getElem_mem hjz))
      rw [hcell j hjz]
      simp only [List.getD_eq_getElem?_getD, List.getElem?_eq_getElem hjz, Option.getD_some, List.getElem_map, List.getElem_take, byt]
      rw [hk]
      simp
    · obtain ⟨z, hzm, rfl⟩ := List.mem_map.1 hy
      obtain ⟨k, rfl, hk⟩ := byte_of_wf (hwz z (List.mem_of_mem_take hzm))
      simpa using hk
/-- bytes within something that came in -/
theorem open_bytes1 {fuel : Nat} {c : Value} {y : DataW H × List MemPlace} (hf : DataW.trod enc Tryd.prog w 0 (fun _ => true) true fuel 29 [c] = some y) (hs : ∀ el sp, y.1 = .slice el sp → el.length + sp.length ≤ 140737488355328) : ∃ bs : List Nat, CSrc w c bs := by
  rcases open_ints Tryd.underlying29 Tryd.underlying5 (by kernel_rfl) hf with ⟨hcs, _⟩ | ⟨x, l, cc, zs, hcs, _, hl, hm, hz, hx, hcell, hwz⟩
  · simp at hcs
    subst hcs
    exact ⟨[], CSrc.nil w⟩
  · simp at hcs
    subst hcs
    have hz' : zs.length = cc := by simpa using hz
    rw [hx] at hs
    have hsm := hs _ _ rfl
    simp only [lits, List.length_map, List.length_take, List.length_drop] at hsm
    have hln : ((zs.take l).map Int.toNat).length = l := by rw [List.length_map, List.length_take, Nat.min_eq_left (by omega)]
    refine ⟨(zs.take l).map Int.toNat, ⟨⟨⟨some x, cc, by rw [hln], fun j hj => ⟨x, rfl, ?_⟩⟩, by omega, fun y hy => ?_⟩, fun _ _ _ e => by injection e with _ e2 e3; omega⟩⟩
    · rw [hln] at hj
      have hjz : j < zs.length := by omega
      obtain ⟨k, hk, _⟩ := byte_of_wf (hwz zs[j] (List.getElem_mem hjz))
      rw [hcell j hjz]
      simp only [List.getD_eq_getElem?_getD, List.getElem?_eq_getElem hjz, Option.getD_some, List.getElem_map, List.getElem_take, byt]
      rw [hk]
      simp
    · obtain ⟨z, hzm, rfl⟩ := List.mem_map.1 hy
      obtain ⟨k, rfl, hk⟩ := byte_of_wf (hwz z (List.mem_of_mem_take hzm))
      simpa using hk
theorem open_block_cells {fuel : Nat} {L : List Value} {y : DataW H × List MemPlace} (hf : DataW.trod enc Tryd.prog w 0 (fun _ => true) true fuel 38 L = some y) (hs : ∀ n ∈ y.1.weights Tryd.prog 38, n ≤ reachBytes) : ∃ t c bs, L = [iv t, c] ∧ i64 t ∧ CSrc w c bs := by
  have hc1 : Tryd.prog.cellsOf 29 = 1 := by kernel_rfl
  have hC : Tryd.prog.cellsOf 38 = 2 := by kernel_rfl
  have hb1 : Tryd.prog.bytesOf 5 = 1 := by kernel_rfl
  obtain ⟨xs, n, _, hx, hl, hlen, hg⟩ := DataW.trod_struct Tryd.underlying38 hf
  match L, hl.trans hC with
  | [c0, c1], _ =>
    have hs2 : ∀ j, j < 2 → (xs[j]?).isSome = true := fun j hj => by rw [List.getElem?_eq_getElem (by rw [hlen]; exact hj)]; rfl
    obtain ⟨t, rfl, ht⟩ := one_field (c := c0) (i := 0) (hg 0 _ rfl) rfl (hs2 0 (by decide)) rfl
    have h1 := hg 1 _ rfl
    obtain ⟨z1, hz1⟩ := Option.isSome_iff_exists.1 (hs2 1 (by decide))
    rw [hz1] at h1
    have h1' : DataW.trod enc Tryd.prog w 0 (fun _ => true) true n 29 [c1] = some z1 := h1
    obtain ⟨bs, hb⟩ := open_bytes1 h1' (fun el sp e => by
      have h2 : (el.length + sp.length) * Tryd.prog.bytesOf 5 ∈ z1.1.weights Tryd.prog 29 := by rw [e]; simp [DataW.weights, Tryd.underlying29]
      have h3 := hs _ (by
        rw [hx]
        simp only [DataW.weights, Tryd.underlying38]
        exact DataW.weights_mem_each (j := 1) (t := 29) (d := z1.1) rfl (by rw [List.getElem?_map, hz1]; rfl) _ h2)
      rw [hb1] at h3
      unfold reachBytes at h3
      omega)
    exact ⟨t, c1, bs, rfl, ht, hb⟩
theorem weightsAll_mem {P : Program} {e : TypeId} {n : Nat} : ∀ {l : List (DataW H)} {d : DataW H}, d ∈ l → n ∈ d.weights P e → n ∈ DataW.weightsAll P e l
  | [], _, h, _ => by cases h
  | x :: l, d, h, hn => by
    unfold DataW.weightsAll
    rcases List.mem_cons.1 h with rfl | h
    · exact List.mem_append.2 (.inl hn)
    · exact List.mem_append.2 (.inr (weightsAll_mem h hn))
/-- a block that came in -/
theorem open_block {ts : List TypeId} {ds : List (DataW H)} (hsz : (DataW.weightsEach Tryd.prog ts ds).all (· ≤ reachBytes) = true) {j : Nat} {b0 : Nat} {v : Value} {d : DataW H} {p : List MemPlace} (ht : ts[j]? = some 38) (hd : ds[j]? = some d)
    (hv : Value.okWide Tryd.prog w .any b0 38 v) (h : DataW.Trod enc Tryd.prog w 0 (fun _ => true) true 38 v d p) : ∃ t c bs, v = .agg #[iv t, c] ∧ i64 t ∧ CSrc w c bs := by
  obtain ⟨cs, rfl, hs4⟩ := okWide_struct Tryd.underlying38 hv
  obtain ⟨fuel, hf⟩ := h
  obtain ⟨L⟩ := cs
  obtain ⟨t, c, bs, e, h1, h2⟩ := open_block_cells hf (fun n hn => by
    have := List.all_eq_true.1 hsz _ (DataW.weights_mem_each ht hd _ hn)
    simpa using this)
  have e' : L = [iv t, c] := e
  exact ⟨t, c, bs, by rw [e'], h1, h2⟩
theorem open_int {b0 : Nat} {v : Value} {d : DataW H} {p : List MemPlace} (_hv : Value.okWide Tryd.prog w .any b0 3 v) (h : DataW.Trod enc Tryd.prog w 0 (fun _ => true) true 3 v d p) : ∃ n, v = iv n ∧ i64 n := by
  obtain ⟨n, rfl⟩ := okWide_int Tryd.underlying3 _hv
  obtain ⟨fuel, hf⟩ := h
  obtain ⟨x, e, hx⟩ := one_int (c := iv n) hf
  exact ⟨n, rfl, by injection e with _ e; rw [e]; exact hx⟩
set_option maxRecDepth 100000 in
/-- blocks that came in -/
theorem open_blocks {ts : List TypeId} {ds : List (DataW H)} (hsz : (DataW.weightsEach Tryd.prog ts ds).all (· ≤ reachBytes) = true) {j : Nat} {A : Option Addr} {len cap : Nat} {d : DataW H} {p : List MemPlace} (ht : ts[j]? = some 22) (hd : ds[j]? = some d)
    (h : DataW.Trod enc Tryd.prog w 0 (fun _ => true) true 22 (.slice A len cap) d p) : ∃ l, BSrc w (.slice A len cap) l := by
  obtain ⟨fuel, hf⟩ := h
  have hb32 : Tryd.prog.bytesOf 38 = 32 := by kernel_rfl
  have hC : Tryd.prog.cellsOf 38 = 2 := by kernel_rfl
  have hs : ∀ el sp, d = .slice el sp → el.length + sp.length ≤ 140737488355328 := fun el sp e => by
    have h1 : (el.length + sp.length) * Tryd.prog.bytesOf 38 ∈ d.weights Tryd.prog 22 := by rw [e]; simp [DataW.weights, Tryd.underlying22]
    have h3 := List.all_eq_true.1 hsz _ (DataW.weights_mem_each ht hd _ h1)
    rw [hb32] at h3
    simp at h3
    unfold reachBytes at h3
    omega
  rcases Go.Deep.open_slice Tryd.underlying22 hf with ⟨hcs, _⟩ | ⟨a, l, c, m, n, D, Pl, hcs, _, hl, _, hm, hx, hi⟩
  · simp [Value.cells] at hcs
    obtain ⟨rfl, rfl, rfl⟩ := hcs
    exact ⟨[], BSrc.nil w⟩
  · simp [Value.cells] at hcs
    obtain ⟨rfl, rfl, rfl⟩ := hcs
    simp only [Prod.mk.injEq] at hx
    have hsm := hs _ _ hx.1
    simp only [List.length_map, List.length_range] at hsm
    have hml : len ≤ m := by rw [hm]; simp only [if_true]; exact hl
    have key : ∀ i, i < len → ∃ q : Bk, w.cell? (a.add (i * 2)) = some (iv q.1) ∧ (∃ v, w.cell? (a.add (i * 2 + 1)) = some v ∧ CSrc w v q.2) ∧ i64 q.1 := by
      intro i hil
      obtain ⟨cs', hc, ht'⟩ := hi i (by omega)
      rw [hC] at hc
      obtain ⟨_, hcl, hat⟩ := World.cells?_some hc
      obtain ⟨t, v, bs, rfl, h1, h2⟩ := open_block_cells ht' (fun k hk => by
        have h4 : k ∈ d.weights Tryd.prog 22 := by
          rw [hx.1]
          simp only [DataW.weights, Tryd.underlying22]
          exact List.mem_cons_of_mem _ (List.mem_append.2 (.inl (weightsAll_mem (List.mem_map.2 ⟨i, List.mem_range.2 hil, rfl⟩) hk)))
        have := List.all_eq_true.1 hsz _ (DataW.weights_mem_each ht hd _ h4)
        simpa using this)
      refine ⟨(t, bs), ?_, ⟨v, ?_, h2⟩, h1⟩
      · have := hat 0 (by decide)
        rw [Go.Deep.add_add] at this
        exact this
      · have := hat 1 (by decide)
        rw [Go.Deep.add_add] at this
        exact this
    obtain ⟨L, hLl, hL⟩ : ∃ L : List Bk, L.length = len ∧ ∀ i, (h : i < L.length) → w.cell? (a.add (i * 2)) = some (iv L[i].1) ∧ (∃ v, w.cell? (a.add (i * 2 + 1)) = some v ∧ CSrc w v L[i].2) ∧ i64 L[i].1 := by
      have mk : ∀ n, n ≤ len → ∃ L : List Bk, L.length = n ∧ ∀ i, (h : i < L.length) → w.cell? (a.add (i * 2)) = some (iv L[i].1) ∧ (∃ v, w.cell? (a.add (i * 2 + 1)) = some v ∧ CSrc w v L[i].2) ∧ i64 L[i].1 := by
        intro n
        induction n with
        | zero => intro _; exact ⟨[], rfl, fun i h => by simp at h⟩
        | succ n ih =>
          intro hn
          obtain ⟨L, hl1, hl2⟩ := ih (by omega)
          obtain ⟨q, hq⟩ := key n (by omega)
          refine ⟨L ++ [q], by simp [hl1], fun i h => ?_⟩
          by_cases e : i < L.length
          · rw [List.getElem_append_left e]; exact hl2 i e
          · have : i = n := by simp at h; omega
            subst this
            rw [List.getElem_append_right (by omega)]
            simpa using hq
      exact mk len (Nat.le_refl _)
    refine ⟨L, ⟨⟨some a, cap, by rw [hLl], by omega, fun j hj => ?_⟩, by omega, fun q hq => ?_⟩⟩
    · obtain ⟨h1, ⟨v, h2, h3⟩, _⟩ := hL j hj
      exact ⟨a, v, rfl, h1, h2, h3⟩
    · obtain ⟨i, hi', rfl⟩ := List.getElem_of_mem hq
      exact (hL i hi').2.2
end
end Go.Proofs.YtighdjbeddcckaaDoor
