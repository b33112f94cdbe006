/-
  Arguments that came in, opened: infos, parameters, sums, pieces, bytes.
-/
import Derived.Test.YtpgcaijanmpanaaIF
import Derived.ProofKit
import Derived.OpenShut
import Derived.Lib.SmallJoins
import Derived.Deep.Slices
import Derived.SizedLaws
import Derived.Deep.Strs
import Derived.Deep.Fields
namespace Go.Proofs.Ytpgcaijanmpanaa
open Go.ChangeShapes Go.WideShapes Go.ChangeAt Go.RowKit Go.Joins Go.Deep

theorem Try.own : ownKnob Try.prog.godebug = none := by kernel_rfl
theorem Try.laidOut : laidOutB Try.prog = true := by kernel_rfl

section
variable {H : Type} {enc : TypeId × Value → H} {w : World}
theorem i64_of_wf {n : Int} (h : (Lit.int .i64 n).wf = true) : i64 n := by
  have := h
  simp [Lit.wf, IntKind.min, IntKind.max, IntKind.signed, IntKind.bits] at this
  exact ⟨by omega, by omega⟩
theorem byte_of_wf {n : Int} (h : (Lit.int .u8 n).wf = true) : ∃ x : Nat, n = (x : Int) ∧ x < 256 := by
  have := h
  simp [Lit.wf, IntKind.min, IntKind.max, IntKind.signed, IntKind.bits] at this
  exact ⟨n.toNat, by omega, by omega⟩
theorem one_int {n : Nat} {b : Nat} {c : Value} {y : DataW H × List MemPlace} (h : DataW.trod enc Try.prog w b (fun _ => true) true n 3 [c] = some y) : ∃ x, c = iv x ∧ i64 x := by
  obtain ⟨x, e, _, w0⟩ := DataW.trod_int Try.underlying3 h
  simp at e
  exact ⟨x, e, i64_of_wf w0⟩
theorem one_byte {n : Nat} {b : Nat} {c : Value} {y : DataW H × List MemPlace} (h : DataW.trod enc Try.prog w b (fun _ => true) true n 5 [c] = some y) : ∃ x : Nat, c = byt x ∧ x < 256 := by
  obtain ⟨x, e, _, w0⟩ := DataW.trod_int Try.underlying5 h
  simp at e
  obtain ⟨k, rfl, hk⟩ := byte_of_wf w0
  exact ⟨k, e, hk⟩
theorem all_bytes : ∀ (L : List Value), (∀ i, (h : i < L.length) → ∃ x : Nat, L[i] = byt x ∧ x < 256) → ∃ s : List Nat, L = s.map byt ∧ ∀ x ∈ s, x < 256
  | [], _ => ⟨[], rfl, by simp⟩
  | c :: L, h => by
    obtain ⟨s, hs, hlt⟩ := all_bytes L (fun i hi => h (i + 1) (by simp; omega))
    obtain ⟨x, hx, hx2⟩ := h 0 (by simp)
    simp at hx
    refine ⟨x :: s, by rw [hs, hx]; rfl, fun y hy => ?_⟩
    rcases List.mem_cons.1 hy with rfl | hy
    · exact hx2
    · exact hlt y hy
theorem open_sum_cells {n b : Nat} {L : List Value} {y : DataW H × List MemPlace} (h : DataW.trod enc Try.prog w b (fun _ => true) true n 24 L = some y) : ∃ s : List Nat, L = s.map byt ∧ SumOk s := by
  obtain ⟨xs, m, _, _, hl, hn, hi⟩ := DataW.trod_array Try.underlying24 h
  have hc1 : Try.prog.cellsOf 5 = 1 := by kernel_rfl
  have hc16 : Try.prog.cellsOf 24 = 16 := by kernel_rfl
  rw [hc1] at hi
  rw [hc16] at hl
  obtain ⟨s, hs, hlt⟩ := all_bytes L (fun i hiL => by
    have h0 := hi i (by omega)
    rw [Nat.mul_one, List.drop_eq_getElem_cons hiL, List.take_succ_cons, List.take_zero, List.getElem?_eq_getElem (by omega)] at h0
    exact one_byte h0)
  exact ⟨s, hs, by rw [hs] at hl; simpa using hl, hlt⟩
theorem one_field {n b : Nat} {c : Value} {L : List Value} {i : Nat} {y : Option (DataW H × List MemPlace)} {t : TypeId} (h : DataW.trod enc Try.prog w b (fun _ => true) true n t ((L.drop i).take (Try.prog.cellsOf t)) = y) (ht : t = 3) (hy : y.isSome = true) (hc : L[i]? = some c) : ∃ x, c = iv x ∧ i64 x := by
  subst ht
  have hc1 : Try.prog.cellsOf 3 = 1 := by kernel_rfl
  obtain ⟨z, hz⟩ := Option.isSome_iff_exists.1 hy
  obtain ⟨hi, rfl⟩ := List.getElem?_eq_some_iff.1 hc
  rw [hc1, List.drop_eq_getElem_cons hi, List.take_succ_cons, List.take_zero, hz] at h
  exact one_int h
set_option maxRecDepth 100000 in
theorem open_params_cells {n b : Nat} {L : List Value} {y : DataW H × List MemPlace} (h : DataW.trod enc Try.prog w b (fun _ => true) true n 23 L = some y) : ∃ r c d, L = [iv r, iv c, iv d] ∧ i64 r ∧ i64 c ∧ i64 d := by
  obtain ⟨xs, m, _, _, hl, hlen, hg⟩ := DataW.trod_struct Try.underlying23 h
  have hc3 : Try.prog.cellsOf 23 = 3 := by kernel_rfl
  match L, hl.trans hc3 with
  | [c0, c1, c2], _ =>
    have hs : ∀ j, j < 3 → (xs[j]?).isSome = true := fun j hj => by rw [List.getElem?_eq_getElem (by rw [hlen]; exact hj)]; rfl
    obtain ⟨r, rfl, hr⟩ := one_field (c := c0) (i := 0) (hg 0 _ rfl) rfl (hs 0 (by decide)) rfl
    obtain ⟨c, rfl, hc⟩ := one_field (c := c1) (i := 1) (hg 1 _ rfl) rfl (hs 1 (by decide)) rfl
    obtain ⟨d, rfl, hd⟩ := one_field (c := c2) (i := 2) (hg 2 _ rfl) rfl (hs 2 (by decide)) rfl
    exact ⟨r, c, d, rfl, hr, hc, hd⟩
theorem open_params {b0 : Nat} {v : Value} {d : DataW H} {p : List MemPlace} (hv : Value.okWide Try.prog w .any b0 23 v) (h : DataW.Trod enc Try.prog w 0 (fun _ => true) true 23 v d p) :
    ∃ r c d, v = .agg #[iv r, iv c, iv d] ∧ i64 r ∧ i64 c ∧ i64 d := by
  obtain ⟨cs, rfl, hsz⟩ := okWide_struct Try.underlying23 hv
  obtain ⟨L⟩ := cs
  obtain ⟨fuel, hf⟩ := h
  obtain ⟨r, c, d, e, h1, h2, h3⟩ := open_params_cells hf
  have e' : L = [iv r, iv c, iv d] := e
  exact ⟨r, c, d, by rw [e'], h1, h2, h3⟩
theorem open_sum {b0 : Nat} {v : Value} {d : DataW H} {p : List MemPlace} (hv : Value.okWide Try.prog w .any b0 24 v) (h : DataW.Trod enc Try.prog w 0 (fun _ => true) true 24 v d p) :
    ∃ s : List Nat, v = .agg (s.map byt).toArray ∧ SumOk s := by
  simp only [Value.okWide, Try.underlying24] at hv
  obtain ⟨cs, rfl, hsz, _⟩ := hv
  obtain ⟨L⟩ := cs
  obtain ⟨fuel, hf⟩ := h
  obtain ⟨s, e, hs⟩ := open_sum_cells hf
  have e' : L = s.map byt := e
  exact ⟨s, by rw [e'], hs⟩
set_option maxRecDepth 100000 in
theorem open_info {b0 : Nat} {v : Value} {d : DataW H} {p : List MemPlace} (hv : Value.okWide Try.prog w .any b0 26 v) (h : DataW.Trod enc Try.prog w 0 (fun _ => true) true 26 v d p) :
    ∃ i, v = .agg (nfc i) ∧ NfI i := by
  obtain ⟨cs, rfl, hsz⟩ := okWide_struct Try.underlying26 hv
  obtain ⟨L⟩ := cs
  have hc24 : Try.prog.cellsOf 26 = 24 := by kernel_rfl
  have hc3 : Try.prog.cellsOf 23 = 3 := by kernel_rfl
  have hc16 : Try.prog.cellsOf 24 = 16 := by kernel_rfl
  match L, hsz.trans hc24 with
  | [c0, c1, c2, c3, c4, c5, c6, c7, c8, c9, c10, c11, c12, c13, c14, c15, c16, c17, c18, c19, c20, c21, c22, c23], _ =>
    obtain ⟨fuel, hf⟩ := h
    obtain ⟨xs, n, _, _, _, hlen, hg⟩ := DataW.trod_struct Try.underlying26 hf
    have hs : ∀ j, j < 7 → (xs[j]?).isSome = true := fun j hj => by rw [List.getElem?_eq_getElem (by rw [hlen]; exact hj)]; rfl
    have h0 := hg 0 _ rfl
    have h6 := hg 6 _ rfl
    obtain ⟨z0, hz0⟩ := Option.isSome_iff_exists.1 (hs 0 (by decide))
    obtain ⟨z6, hz6⟩ := Option.isSome_iff_exists.1 (hs 6 (by decide))
    rw [hz0] at h0
    rw [hz6] at h6
    obtain ⟨r, c, d, e0, i1, i2, i3⟩ := open_params_cells h0
    have e0 : ([c0, c1, c2, c3, c4, c5, c6, c7, c8, c9, c10, c11, c12, c13, c14, c15, c16, c17, c18, c19, c20, c21, c22, c23].drop 0).take (Try.prog.cellsOf 23) = [iv r, iv c, iv d] := e0
    rw [hc3] at e0
    obtain ⟨s, e6, i9⟩ := open_sum_cells h6
    have e6 : ([c0, c1, c2, c3, c4, c5, c6, c7, c8, c9, c10, c11, c12, c13, c14, c15, c16, c17, c18, c19, c20, c21, c22, c23].drop 8).take (Try.prog.cellsOf 24) = s.map byt := e6
    rw [hc16] at e6
    obtain ⟨mb, rfl, i4⟩ := one_field (c := c3) (i := 3) (hg 1 _ rfl) rfl (hs 1 (by decide)) rfl
    obtain ⟨xb, rfl, i5⟩ := one_field (c := c4) (i := 4) (hg 2 _ rfl) rfl (hs 2 (by decide)) rfl
    obtain ⟨mf, rfl, i6⟩ := one_field (c := c5) (i := 5) (hg 3 _ rfl) rfl (hs 3 (by decide)) rfl
    obtain ⟨xf, rfl, i7⟩ := one_field (c := c6) (i := 6) (hg 4 _ rfl) rfl (hs 4 (by decide)) rfl
    obtain ⟨t, rfl, i8⟩ := one_field (c := c7) (i := 7) (hg 5 _ rfl) rfl (hs 5 (by decide)) rfl
    refine ⟨⟨r, c, d, mb, xb, mf, xf, t, s⟩, ?_, ⟨i1, i2, i3, i4, i5, i6, i7, i8, i9⟩⟩
    have e0' : [c0, c1, c2] = [iv r, iv c, iv d] := e0
    have e6' : [c8, c9, c10, c11, c12, c13, c14, c15, c16, c17, c18, c19, c20, c21, c22, c23] = s.map byt := e6
    unfold nfc nfL
    rw [← e6']
    injection e0' with a0 e0'
    injection e0' with a1 e0'
    injection e0' with a2 _
    subst a0 a1 a2
    rfl
set_option maxRecDepth 100000 in
/-- pieces that came in -/
theorem open_pieces {ts : List TypeId} {ds : List (DataW H)} (hsz : (DataW.weightsEach Try.prog ts ds).all (· ≤ reachBytes) = true) {j : Nat} {A : Option Addr} {len cap : Nat} {d : DataW H} {p : List MemPlace} (ht : ts[j]? = some 45) (hd : ds[j]? = some d)
    (h : DataW.Trod enc Try.prog w 0 (fun _ => true) true 45 (.slice A len cap) d p) : ∃ l, PSrc w (.slice A len cap) l := by
  obtain ⟨fuel, hf⟩ := h
  have hb16 : Try.prog.bytesOf 49 = 16 := by kernel_rfl
  have hC : Try.prog.cellsOf 49 = 2 := by kernel_rfl
  have hs : ∀ el sp, d = .slice el sp → el.length + sp.length ≤ 140737488355328 := fun el sp e => by
    have h1 : (el.length + sp.length) * Try.prog.bytesOf 49 ∈ d.weights Try.prog 45 := by rw [e]; simp [DataW.weights, Try.underlying45]
    have h3 := List.all_eq_true.1 hsz _ (DataW.weights_mem_each ht hd _ h1)
    rw [hb16] at h3
    simp at h3
    unfold reachBytes at h3
    omega
  rcases Go.Deep.open_slice Try.underlying45 hf with ⟨hcs, _⟩ | ⟨a, l, c, m, n, D, Pl, hcs, _, hl, _, hm, hx, hi⟩
  · simp [Value.cells] at hcs
    obtain ⟨rfl, rfl, rfl⟩ := hcs
    exact ⟨[], PSrc.nil w⟩
  · simp [Value.cells] at hcs
    obtain ⟨rfl, rfl, rfl⟩ := hcs
    simp only [Prod.mk.injEq] at hx
    have hsm := hs _ _ hx.1
    simp only [List.length_map, List.length_range] at hsm
    have hml : len ≤ m := by rw [hm]; simp only [if_true]; exact hl
    have key : ∀ i, i < len → ∃ q : Int × Int, w.cell? (a.add (i * 2)) = some (iv q.1) ∧ w.cell? (a.add (i * 2 + 1)) = some (iv q.2) ∧ i64 q.1 ∧ i64 q.2 := by
      intro i hil
      obtain ⟨cs', hc, ht'⟩ := hi i (by omega)
      rw [hC] at hc
      obtain ⟨_, hcl, hat⟩ := World.cells?_some hc
      obtain ⟨xs, n', _, _, _, hlen, hg⟩ := DataW.trod_struct Try.underlying49 ht'
      have hs2 : ∀ j, j < 2 → (xs[j]?).isSome = true := fun j hj => by rw [List.getElem?_eq_getElem (by rw [hlen]; exact hj)]; rfl
      match cs', hcl with
      | [c0, c1], _ =>
        obtain ⟨x, rfl, hx1⟩ := one_field (c := c0) (i := 0) (hg 0 _ rfl) rfl (hs2 0 (by decide)) rfl
        obtain ⟨y, rfl, hy1⟩ := one_field (c := c1) (i := 1) (hg 1 _ rfl) rfl (hs2 1 (by decide)) rfl
        refine ⟨(x, y), ?_, ?_, hx1, hy1⟩
        · have := hat 0 (by decide)
          rw [Go.Deep.add_add] at this
          exact this
        · have := hat 1 (by decide)
          rw [Go.Deep.add_add] at this
          exact this
    obtain ⟨L, hLl, hL⟩ : ∃ L : List (Int × Int), L.length = len ∧ ∀ i, (h : i < L.length) → w.cell? (a.add (i * 2)) = some (iv L[i].1) ∧ w.cell? (a.add (i * 2 + 1)) = some (iv L[i].2) ∧ i64 L[i].1 ∧ i64 L[i].2 := by
      have mk : ∀ n, n ≤ len → ∃ L : List (Int × Int), L.length = n ∧ ∀ i, (h : i < L.length) → w.cell? (a.add (i * 2)) = some (iv L[i].1) ∧ w.cell? (a.add (i * 2 + 1)) = some (iv L[i].2) ∧ i64 L[i].1 ∧ i64 L[i].2 := by
        intro n
        induction n with
        | zero => intro _; exact ⟨[], rfl, fun i h => by simp at h⟩
        | succ n ih =>
          intro hn
          obtain ⟨L, hl1, hl2⟩ := ih (by omega)
          obtain ⟨q, hq⟩ := key n (by omega)
          refine ⟨L ++ [q], by simp [hl1], fun i h => ?_⟩
          by_cases e : i < L.length
          · rw [List.getElem_append_left e]; exact hl2 i e
          · have : i = n := by simp at h; omega
            subst this
            rw [List.getElem_append_right (by omega)]
            simpa using hq
      exact mk len (Nat.le_refl _)
    refine ⟨L, ⟨⟨some a, cap, by rw [hLl], by omega, fun j hj => ⟨a, rfl, (hL j hj).1, (hL j hj).2.1⟩⟩, by omega, fun q hq => ?_⟩⟩
    obtain ⟨i, hi', rfl⟩ := List.getElem_of_mem hq
    exact ⟨(hL i hi').2.2.1, (hL i hi').2.2.2⟩
set_option maxRecDepth 100000 in
/-- bytes that came in -/
theorem open_bytes {ts : List TypeId} {ds : List (DataW H)} (hsz : (DataW.weightsEach Try.prog ts ds).all (· ≤ reachBytes) = true) {j : Nat} {A : Option Addr} {len cap : Nat} {d : DataW H} {p : List MemPlace} (ht : ts[j]? = some 27) (hd : ds[j]? = some d)
    (h : DataW.Trod enc Try.prog w 0 (fun _ => true) true 27 (.slice A len cap) d p) : ∃ bs : List Nat, Src w (.slice A len cap) bs ∧ len ≤ cap := by
  obtain ⟨fuel, hf⟩ := h
  have hb8 : Try.prog.bytesOf 5 = 1 := by kernel_rfl
  have hs : ∀ el sp, d = .slice el sp → el.length + sp.length ≤ 140737488355328 := fun el sp e => by
    have h1 : (el.length + sp.length) * Try.prog.bytesOf 5 ∈ d.weights Try.prog 27 := by rw [e]; simp [DataW.weights, Try.underlying27]
    have h3 := List.all_eq_true.1 hsz _ (DataW.weights_mem_each ht hd _ h1)
    rw [hb8] at h3
    simp at h3
    unfold reachBytes at h3
    omega
  rcases open_ints Try.underlying27 Try.underlying5 (by kernel_rfl) hf with ⟨hcs, _⟩ | ⟨x, l, c, zs, hcs, _, hl, hm, hz, hx, hcell, hwz⟩
  · simp [Value.cells] at hcs
    obtain ⟨rfl, rfl, rfl⟩ := hcs
    exact ⟨[], Src.nil w, Nat.le_refl _⟩
  · simp [Value.cells] at hcs
    obtain ⟨rfl, rfl, rfl⟩ := hcs
    have hz' : zs.length = cap := by simpa using hz
    simp only [Prod.mk.injEq] at hx
    have hsm := hs _ _ hx.1
    simp only [lits, List.length_map, List.length_take, List.length_drop] at hsm
    have hln : ((zs.take len).map Int.toNat).length = len := by rw [List.length_map, List.length_take, Nat.min_eq_left (by omega)]
    refine ⟨(zs.take len).map Int.toNat, ⟨⟨some x, cap, by rw [hln], fun j hj => ⟨x, rfl, ?_⟩⟩, by omega, fun y hy => ?_⟩, hl⟩
    · rw [hln] at hj
      have hjz : j < zs.length := by omega
      obtain ⟨k, hk, _⟩ := byte_of_wf (hwz zs[j] (List.getElem_mem hjz))
      rw [hcell j hjz]
      simp only [List.getD_eq_getElem?_getD, List.getElem?_eq_getElem hjz, Option.getD_some, List.getElem_map, List.getElem_take, byt]
      rw [hk]
      simp
    · obtain ⟨z, hzm, rfl⟩ := List.mem_map.1 hy
      obtain ⟨k, rfl, hk⟩ := byte_of_wf (hwz z (List.mem_of_mem_take hzm))
      simpa using hk
end
end Go.Proofs.Ytpgcaijanmpanaa
