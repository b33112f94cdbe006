/-
  Arguments that came in, opened: slices of numbers, two numbers.
-/
import Derived.Test.YtmnogedkinhljaaEG
import Derived.ProofKit
import Derived.OpenShut
import Derived.Lib.SmallJoins
import Derived.Deep.Slices
import Derived.SizedLaws
import Derived.Deep.Strs
namespace Go.Proofs.Ytmnogedkinhljaa
open Go.ChangeShapes Go.WideShapes Go.ChangeAt Go.RowKit Go.Joins

theorem Try.own : ownKnob Try.prog.godebug = none := by kernel_rfl
theorem Try.laidOut : laidOutB Try.prog = true := by kernel_rfl

section
variable {H : Type} {enc : TypeId × Value → H} {w : World}
def Fits (n : Int) : Prop := -9223372036854775808 ≤ n ∧ n ≤ 9223372036854775807
theorem fits_of_wf {n : Int} (h : (Lit.int .i64 n).wf = true) : Fits n := by
  have := h
  simp [Lit.wf, IntKind.min, IntKind.max, IntKind.signed, IntKind.bits] at this
  exact ⟨by omega, by omega⟩
set_option maxRecDepth 100000 in
theorem weightsAll_mem {P : Program} {e : TypeId} {n : Nat} : ∀ {l : List (DataW H)} {d : DataW H}, d ∈ l → n ∈ d.weights P e → n ∈ DataW.weightsAll P e l
  | [], _, h, _ => by cases h
  | x :: l, d, h, hn => by
    unfold DataW.weightsAll
    rcases List.mem_cons.1 h with rfl | h
    · exact List.mem_append.2 (.inl hn)
    · exact List.mem_append.2 (.inr (weightsAll_mem h hn))
set_option maxRecDepth 100000 in
theorem open_ints1 {c : Value} {x : DataW H × List MemPlace} {m : Nat} (h : DataW.trod enc Try.prog w 0 (fun _ => true) true m 22 [c] = some x) (hs : ∀ el sp, x.1 = .slice el sp → el.length + sp.length ≤ 140737488355328) :
    ∃ A n cap xs, c = .slice A n cap ∧ ISrc w (.slice A n cap) xs ∧ n ≤ cap := by
  rcases open_ints Try.underlying22 Try.underlying3 (by kernel_rfl) h with ⟨hcs, _⟩ | ⟨a, l, cp, zs, hcs, _, hl, hm, hz, hx, hcell, hwz⟩
  · injection hcs with e _
    subst e
    exact ⟨none, 0, 0, [], rfl, ⟨⟨none, 0, rfl, Nat.le_refl _, fun j hj => by simp at hj⟩, by simp, by simp⟩, Nat.le_refl _⟩
  · injection hcs with e _
    subst e
    have hz' : zs.length = cp := by simpa using hz
    have hsm := hs _ _ (by rw [hx])
    simp only [lits, List.length_map, List.length_take, List.length_drop] at hsm
    have hlen : (zs.take l).length = l := by rw [List.length_take, Nat.min_eq_left (by omega)]
    refine ⟨some a, l, cp, zs.take l, rfl, ⟨⟨some a, cp, by rw [hlen], by rw [hlen]; exact hl, fun j hj => ⟨a, rfl, ?_⟩⟩, by omega, fun y hy => fits_of_wf (hwz y (List.mem_of_mem_take hy))⟩, hl⟩
    rw [hlen] at hj
    have hjz : j < zs.length := by omega
    rw [hcell j hjz]
    simp only [List.getElem_take, List.getD_eq_getElem?_getD, List.getElem?_eq_getElem hjz, Option.getD_some]
set_option maxRecDepth 100000 in
/-- a slice of numbers that came in -/
theorem open_numbers {ts : List TypeId} {ds : List (DataW H)} (hsz : (DataW.weightsEach Try.prog ts ds).all (· ≤ reachBytes) = true) {j : Nat} {A : Option Addr} {len cap : Nat} {d : DataW H} {p : List MemPlace} (ht : ts[j]? = some 22) (hd : ds[j]? = some d)
    (h : DataW.Trod enc Try.prog w 0 (fun _ => true) true 22 (.slice A len cap) d p) : ∃ xs, ISrc w (.slice A len cap) xs := by
  obtain ⟨fuel, hf⟩ := h
  have hb8 : Try.prog.bytesOf 3 = 8 := by kernel_rfl
  obtain ⟨A1, n1, k1, l1, e1, s1, q1⟩ := open_ints1 (c := .slice A len cap) (x := (d, p)) (m := fuel) (by simpa [Value.cells] using hf) (fun el sp e => by
    have e' : d = .slice el sp := e
    have h1 : (el.length + sp.length) * Try.prog.bytesOf 3 ∈ d.weights Try.prog 22 := by rw [e']; simp [DataW.weights, Try.underlying22]
    have h3 := List.all_eq_true.1 hsz _ (DataW.weights_mem_each ht hd _ h1)
    rw [hb8] at h3
    simp at h3
    unfold reachBytes at h3
    omega)
  injection e1 with e2 e3 e4
  subst e2 e3 e4
  exact ⟨l1, s1⟩
set_option maxRecDepth 100000 in
theorem open_two {b0 : Nat} {v : Value} {d : DataW H} {p : List MemPlace} (hv : Value.okWide Try.prog w .any b0 31 v) (h : DataW.Trod enc Try.prog w 0 (fun _ => true) true 31 v d p) :
    ∃ x y : Int, v = .agg #[iv x, iv y] ∧ (Lit.int .i64 x).wf = true ∧ (Lit.int .i64 y).wf = true := by
  have hu : Try.prog.underlying 31 = some (.array 2 3) := by kernel_rfl
  have hc1 : Try.prog.cellsOf 3 = 1 := by kernel_rfl
  have hc2 : Try.prog.cellsOf 31 = 2 := by kernel_rfl
  simp only [Value.okWide, hu] at hv
  obtain ⟨cs, rfl, hsz, _⟩ := hv
  obtain ⟨l⟩ := cs
  obtain ⟨fuel, hf⟩ := h
  obtain ⟨xs, m, _, hx, hl, hn, hi⟩ := DataW.trod_array hu hf
  rw [hc1] at hi
  match l, hsz.trans hc2 with
  | [c0, c1], _ =>
    match xs, hn with
    | [y0, y1], _ =>
      have h0 := hi 0 (by omega)
      have h1 := hi 1 (by omega)
      obtain ⟨x, e0, _, w0⟩ := DataW.trod_int Try.underlying3 (by simpa [Value.cells] using h0)
      obtain ⟨y, e1, _, w1⟩ := DataW.trod_int Try.underlying3 (by simpa [Value.cells] using h1)
      simp at e0 e1
      subst e0 e1
      exact ⟨x, y, rfl, w0, w1⟩
end
end Go.Proofs.Ytmnogedkinhljaa
