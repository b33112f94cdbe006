/-
  Arguments that came in, opened: texts, slices of texts, comments, bytes.
-/
import Derived.Test.YtphpciglpnbblaaDoorTW
import Derived.ProofKit
import Derived.OpenShut
import Derived.Lib.SmallJoins
import Derived.Deep.Slices
import Derived.SizedLaws
import Derived.Deep.Strs
import Derived.Deep.Fields
namespace Go.Proofs.YtphpciglpnbblaaDoor
open Go.ChangeShapes Go.WideShapes Go.ChangeAt Go.RowKit Go.Joins Go.Deep

def i64 (n : Int) : Prop := -9223372036854775808 ≤ n ∧ n ≤ 9223372036854775807
theorem Tryd.own : ownKnob Tryd.prog.godebug = none := by kernel_rfl
theorem Tryd.laidOut : laidOutB Tryd.prog = true := by kernel_rfl

section
variable {H : Type} {enc : TypeId × Value → H} {w : World}
theorem i64_of_wf {n : Int} (h : (Lit.int .i64 n).wf = true) : i64 n := by
  have := h
  simp [Lit.wf, IntKind.min, IntKind.max, IntKind.signed, IntKind.bits] at this
  exact ⟨by omega, by omega⟩
theorem byte_of_wf {n : Int} (h : (Lit.int .u8 n).wf = true) : ∃ x : Nat, n = (x : Int) ∧ x < 256 := by
  have := h
  simp [Lit.wf, IntKind.min, IntKind.max, IntKind.signed, IntKind.bits] at this
  exact ⟨n.toNat, by omega, by omega⟩
theorem one_int {n : Nat} {b : Nat} {c : Value} {y : DataW H × List MemPlace} (h : DataW.trod enc Tryd.prog w b (fun _ => true) true n 3 [c] = some y) : ∃ x, c = iv x ∧ i64 x := by
  obtain ⟨x, e, _, w0⟩ := DataW.trod_int Tryd.underlying3 h
  simp at e
  exact ⟨x, e, i64_of_wf w0⟩
theorem one_byte {n : Nat} {b : Nat} {c : Value} {y : DataW H × List MemPlace} (h : DataW.trod enc Tryd.prog w b (fun _ => true) true n 5 [c] = some y) : ∃ x : Nat, c = byt x ∧ x < 256 := by
  obtain ⟨x, e, _, w0⟩ := DataW.trod_int Tryd.underlying5 h
  simp at e
  obtain ⟨k, rfl, hk⟩ := byte_of_wf w0
  exact ⟨k, e, hk⟩
set_option maxRecDepth 100000 in
/-- bytes that came in -/
theorem open_bytes {ts : List TypeId} {ds : List (DataW H)} (hsz : (DataW.weightsEach Tryd.prog ts ds).all (· ≤ reachBytes) = true) {j : Nat} {A : Option Addr} {len cap : Nat} {d : DataW H} {p : List MemPlace} (ht : ts[j]? = some 25) (hd : ds[j]? = some d)
    (h : DataW.Trod enc Tryd.prog w 0 (fun _ => true) true 25 (.slice A len cap) d p) : ∃ bs : List Nat, Src w (.slice A len cap) bs ∧ len ≤ cap := by
  obtain ⟨fuel, hf⟩ := h
  have hb8 : Tryd.prog.bytesOf 5 = 1 := by kernel_rfl
  have hs : ∀ el sp, d = .slice el sp → el.length + sp.length ≤ 140737488355328 := fun el sp e => by
    have h1 : (el.length + sp.length) * Tryd.prog.bytesOf 5 ∈ d.weights Tryd.prog 25 := by rw [e]; simp [DataW.weights, Tryd.underlying25]
    have h3 := List.all_eq_true.1 hsz _ (DataW.weights_mem_each ht hd _ h1)
    rw [hb8] at h3
    simp at h3
    unfold reachBytes at h3
    omega
  rcases open_ints Tryd.underlying25 Tryd.underlying5 (by kernel_rfl) hf with ⟨hcs, _⟩ | ⟨x, l, c, zs, hcs, _, hl, hm, hz, hx, hcell, hwz⟩
  · simp [Value.cells] at hcs
    obtain ⟨rfl, rfl, rfl⟩ := hcs
    exact ⟨[], Src.nil w, Nat.le_refl _⟩
  · simp [Value.cells] at hcs
    obtain ⟨rfl, rfl, rfl⟩ := hcs
    have hz' : zs.length = cap := by simpa using hz
    simp only [Prod.mk.injEq] at hx
    have hsm := hs _ _ hx.1
    simp only [lits, List.length_map, List.length_take, List.length_drop] at hsm
    have hln : ((zs.take len).map Int.toNat).length = len := by rw [List.length_map, List.length_take, Nat.min_eq_left (by omega)]
    refine ⟨(zs.take len).map Int.toNat, ⟨⟨some x, cap, by rw [hln], fun j hj => ⟨x, rfl, ?_⟩⟩, by omega, fun y hy => ?_⟩, hl⟩
    · rw [hln] at hj
      have hjz : j < zs.length := by omega
      obtain ⟨k, hk, _⟩ := byte_of_wf (hwz zs[j] (List.getElem_mem hjz))
      rw [hcell j hjz]
      simp only [List.getD_eq_getElem?_getD, List.getElem?_eq_getElem hjz, Option.getD_some, List.getElem_map, List.getElem_take, byt]
      rw [hk]
      simp
    · obtain ⟨z, hzm, rfl⟩ := List.mem_map.1 hy
      obtain ⟨k, rfl, hk⟩ := byte_of_wf (hwz z (List.mem_of_mem_take hzm))
      simpa using hk
theorem maxLen_le : maxLen ≤ 9223372036854775807 := by decide
/-- a slice of texts -/
theorem open_texts {ts : List TypeId} {ds : List (DataW H)} (hsz : (DataW.weightsEach Tryd.prog ts ds).all (· ≤ reachBytes) = true) {j fuel : Nat} {c : Value} {y : DataW H × List MemPlace} (ht : ts[j]? = some 22) (hd : ds[j]? = some y.1)
    (h : DataW.trod enc Tryd.prog w 0 (fun _ => true) true fuel 22 [c] = some y) : ∃ l : List ByteArray, SSrc w c l ∧ ∀ s ∈ l, s.size ≤ 9223372036854775807 := by
  have hs : ∀ el sp, y.1 = .slice el sp → el.length + sp.length ≤ 140737488355328 := fun el sp e => by
    have h1 := sized_slice hsz ht (by rw [hd, e]) Tryd.underlying22
    have h2 : Tryd.prog.bytesOf 9 = 16 := by kernel_rfl
    rw [h2] at h1
    have := reachBytes_lt
    omega
  rcases open_strs Tryd.underlying22 Tryd.underlying9 (by kernel_rfl) h with ⟨hcs, _⟩ | ⟨a, len, cap, m, Sx, hcs, _, hl, hm, hmm, hx, hi⟩
  · injection hcs with hcs _
    subst hcs
    exact ⟨[], SSrc.nil w, fun s h => by cases h⟩
  · injection hcs with hcs _
    subst hcs
    have h1 : y.1 = _ := congrArg Prod.fst hx
    have hsm := hs _ _ h1
    simp only [List.length_map, List.length_range] at hsm
    have hlm : len ≤ m := by rw [hmm]; split <;> omega
    have hln : ((List.range len).map Sx).length = len := by simp
    refine ⟨(List.range len).map Sx, ⟨⟨some a, cap, by rw [hln], by omega, fun j hj => ⟨a, rfl, ?_⟩⟩, by omega⟩, fun s hs => ?_⟩
    · rw [hln] at hj
      rw [(hi j (by omega)).1]
      simp
    · obtain ⟨i, hi', rfl⟩ := List.mem_map.1 hs
      exact Nat.le_trans (hi i (by have := List.mem_range.1 hi'; omega)).2 maxLen_le
theorem open_texts0 {ts : List TypeId} {ds : List (DataW H)} (hsz : (DataW.weightsEach Tryd.prog ts ds).all (· ≤ reachBytes) = true) {j : Nat} {A : Option Addr} {len cap : Nat} {d : DataW H} {p : List MemPlace} (ht : ts[j]? = some 22) (hd : ds[j]? = some d)
    (h : DataW.Trod enc Tryd.prog w 0 (fun _ => true) true 22 (.slice A len cap) d p) : ∃ l : List ByteArray, SSrc w (.slice A len cap) l ∧ ∀ s ∈ l, s.size ≤ 9223372036854775807 := by
  obtain ⟨fuel, hf⟩ := h
  exact open_texts (y := (d, p)) hsz ht hd hf
set_option maxRecDepth 100000 in
theorem open_text {v : Value} {d : DataW H} {p : List MemPlace} (hok : Value.okWide Tryd.prog w .any 0 9 v) (h : DataW.Trod enc Tryd.prog w 0 (fun _ => true) true 9 v d p) : ∃ s : ByteArray, v = .string s ∧ s.size ≤ 9223372036854775807 := by
  obtain ⟨fuel, hf⟩ := h
  obtain ⟨s, h1, _, h3⟩ := DataW.trod_string Tryd.underlying9 hf
  obtain ⟨s', rfl⟩ := okWide_string Tryd.underlying9 hok
  have h2 : [Value.string s'] = [Value.string s] := h1
  injection h2 with h2 _
  exact ⟨s, h2, Nat.le_trans h3 maxLen_le⟩
set_option maxRecDepth 100000 in
/-- comments that came in -/
theorem open_comments {ts : List TypeId} {ds : List (DataW H)} (hsz : (DataW.weightsEach Tryd.prog ts ds).all (· ≤ reachBytes) = true) {j : Nat} {v : Value} {d : DataW H} {p : List MemPlace} (ht : ts[j]? = some 24) (hd : ds[j]? = some d)
    (hok : Value.okWide Tryd.prog w .any 0 24 v) (h : DataW.Trod enc Tryd.prog w 0 (fun _ => true) true 24 v d p) :
    ∃ V x l, v = cmV V x ∧ SSrc w x l ∧ V.size ≤ 9223372036854775807 ∧ ∀ s ∈ l, s.size ≤ 9223372036854775807 := by
  have hc0 : Tryd.prog.cellsOf 9 = 1 := by kernel_rfl
  have hc1 : Tryd.prog.cellsOf 22 = 1 := by kernel_rfl
  have hc2 : Tryd.prog.cellsOf 24 = 2 := by kernel_rfl
  obtain ⟨cs, rfl, hs2⟩ := okWide_struct Tryd.underlying24 hok
  obtain ⟨fuel, hf⟩ := h
  obtain ⟨xs, nn, _, hx, hl, hlen, hft⟩ := DataW.trod_struct Tryd.underlying24 hf
  obtain ⟨l⟩ := cs
  match l, hs2.trans hc2 with
  | [x0, x1], _ =>
    match xs, hlen with
    | [y0, y1], _ =>
      have t0 := hft 0 _ rfl
      have t1 := hft 1 _ rfl
      simp only [Value.cells, List.getElem?_cons_zero, List.getElem?_cons_succ] at t0 t1
      simp only [Prod.mk.injEq] at hx
      have hd1 : d = .agg [y0.1, y1.1] := hx.1
      have hin : (DataW.weightsEach Tryd.prog [9, 22] [y0.1, y1.1]).all (· ≤ reachBytes) = true := by
        rw [List.all_eq_true]
        intro n hn
        refine List.all_eq_true.1 hsz n (DataW.weights_mem_each ht hd n ?_)
        rw [hd1]
        simp only [DataW.weights, Tryd.underlying24]
        exact hn
      obtain ⟨s, g0, _, hsz0⟩ := DataW.trod_string Tryd.underlying9 t0
      obtain ⟨L, hL, hLs⟩ := open_texts (c := x1) hin (j := 1) rfl rfl t1
      have g1 : List.take (Tryd.prog.cellsOf 9) [x0, x1] = [.string s] := g0
      rw [hc0] at g1
      injection g1 with e0 _
      exact ⟨s, x1, L, by rw [e0], hL, Nat.le_trans hsz0 maxLen_le, hLs⟩
end
end Go.Proofs.YtphpciglpnbblaaDoor
