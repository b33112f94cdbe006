/-
  An array of two slices of numbers that came in, opened.
-/
import Derived.Test.YtekmebbioalpdaaDoorDOpened
namespace Go.Proofs.YtekmebbioalpdaaDoor
open Go.ChangeShapes Go.WideShapes Go.ChangeAt Go.RowKit Go.Joins

section
variable {H : Type} {enc : TypeId × Value → H} {w : World}
theorem open_ints1 {c : Value} {x : DataW H × List MemPlace} {m : Nat} (h : DataW.trod enc Tryd.prog w 0 (fun _ => true) true m 39 [c] = some x) (hs : ∀ el sp, x.1 = .slice el sp → el.length + sp.length ≤ 140737488355328) :
    ∃ A n cap xs, c = .slice A n cap ∧ ISrc w (.slice A n cap) xs ∧ n ≤ cap := by
  rcases open_ints Tryd.underlying39 Tryd.underlying3 (by kernel_rfl) h with ⟨hcs, _⟩ | ⟨a, l, cp, zs, hcs, _, hl, hm, hz, hx, hcell, hwz⟩
  · injection hcs with e _
    subst e
    exact ⟨none, 0, 0, [], rfl, ⟨⟨none, 0, rfl, fun j hj => by simp at hj⟩, by simp, by simp⟩, Nat.le_refl _⟩
  · injection hcs with e _
    subst e
    have hz' : zs.length = cp := by simpa using hz
    have hsm := hs _ _ (by rw [hx])
    simp only [lits, List.length_map, List.length_take, List.length_drop] at hsm
    have hlen : (zs.take l).length = l := by rw [List.length_take, Nat.min_eq_left (by omega)]
    refine ⟨some a, l, cp, zs.take l, rfl, ⟨⟨some a, cp, by rw [hlen], fun j hj => ⟨a, rfl, ?_⟩⟩, by omega, fun y hy => fits_of_wf (hwz y (List.mem_of_mem_take hy))⟩, hl⟩
    rw [hlen] at hj
    have hjz : j < zs.length := by omega
    rw [hcell j hjz]
    simp only [List.getElem_take, List.getD_eq_getElem?_getD, List.getElem?_eq_getElem hjz, Option.getD_some]
theorem open_twos {ts : List TypeId} {ds : List (DataW H)} (hsz : (DataW.weightsEach Tryd.prog ts ds).all (· ≤ reachBytes) = true) {j : Nat} {b0 : Nat} {v : Value} {d : DataW H} {p : List MemPlace} (ht : ts[j]? = some 44) (hd : ds[j]? = some d)
    (hv : Value.okWide Tryd.prog w .any b0 44 v) (h : DataW.Trod enc Tryd.prog w 0 (fun _ => true) true 44 v d p) :
    ∃ A1 n1 c1 l A2 n2 c2 r, v = .agg #[.slice A1 n1 c1, .slice A2 n2 c2] ∧ ISrc w (.slice A1 n1 c1) l ∧ n1 ≤ c1 ∧ ISrc w (.slice A2 n2 c2) r ∧ n2 ≤ c2 := by
  have hu : Tryd.prog.underlying 44 = some (.array 2 39) := by kernel_rfl
  have hc1 : Tryd.prog.cellsOf 39 = 1 := by kernel_rfl
  have hc2 : Tryd.prog.cellsOf 44 = 2 := by kernel_rfl
  have hb8 : Tryd.prog.bytesOf 3 = 8 := by kernel_rfl
  simp only [Value.okWide, hu] at hv
  obtain ⟨cs, rfl, hsz2, _⟩ := hv
  obtain ⟨l⟩ := cs
  obtain ⟨fuel, hf⟩ := h
  obtain ⟨xs, m, _, hx, hl, hn, hi⟩ := DataW.trod_array hu hf
  rw [hc1] at hi
  simp only [Prod.mk.injEq] at hx
  rw [hx.1] at hd
  have key : ∀ y ∈ xs, ∀ el sp, y.1 = .slice el sp → el.length + sp.length ≤ 140737488355328 := by
    intro y hy el sp e
    have h1 : (el.length + sp.length) * Tryd.prog.bytesOf 3 ∈ (y.1).weights Tryd.prog 39 := by rw [e]; simp [DataW.weights, Tryd.underlying39]
    have h2 := weightsAll_mem (P := Tryd.prog) (e := 39) (List.mem_map.2 ⟨y, hy, rfl⟩ : y.1 ∈ xs.map (·.1)) h1
    have h3 := List.all_eq_true.1 hsz _ (DataW.weights_mem_each ht hd _ (by simp only [DataW.weights, hu]; exact h2))
    rw [hb8] at h3
    simp at h3
    unfold reachBytes at h3
    omega
  match l, hsz2.trans hc2 with
  | [c0, c1], _ =>
    match xs, hn with
    | [y0, y1], _ =>
      have h0 := hi 0 (by omega)
      have h1 := hi 1 (by omega)
      obtain ⟨A1, n1, k1, l1, e1, s1, q1⟩ := open_ints1 (x := y0) (by simpa [Value.cells] using h0) (key y0 (by simp))
      obtain ⟨A2, n2, k2, l2, e2, s2, q2⟩ := open_ints1 (x := y1) (by simpa [Value.cells] using h1) (key y1 (by simp))
      subst e1 e2
      exact ⟨A1, n1, k1, l1, A2, n2, k2, l2, rfl, s1, q1, s2, q2⟩
end
end Go.Proofs.YtekmebbioalpdaaDoor
