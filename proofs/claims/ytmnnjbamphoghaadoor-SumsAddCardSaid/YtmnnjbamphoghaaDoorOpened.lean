/-
  What the rows' condition on package-level variables gives; the world that start-up leaves; the arguments, opened.
-/
import Derived.Test.YtmnnjbamphoghaaDoorAwaken
import Derived.Test.YtmnnjbamphoghaaDoorTie
import Derived.Test.YtmnnjbamphoghaaDoorCards
import Derived.ProofKit
import Derived.OpenShut
import Derived.LaidMore
import Derived.LaidHandle
import Derived.Lib.LaidTab
import Derived.Lib.SmallJoins
import Derived.Deep.Slices
import Derived.Deep.Matrix
import Derived.Stop.LaidErr
import Derived.Stop.Joined
import Derived.SizedLaws
import Derived.SevenTiedAt
namespace Go.Proofs.YtmnnjbamphoghaaDoor
open Go.ChangeShapes Go.WideShapes Go.ChangeAt Go.RowKit Go.Joins

theorem Tryd.own : ownKnob Tryd.prog.godebug = none := by kernel_rfl
theorem Tryd.laidOut : laidOutB Tryd.prog = true := by kernel_rfl
/-- the rows' list -/
abbrev laid6 : List (String × DataW Unit) := Rows.sumsShiftRow.laid

theorem door_met (os : Os) (args : Array Value) : laidMetH Tryd.prog laid6 ((World.doorLaid Tryd.prog 39 os).forCall (fun _ _ => 0) ⟨#[], args, []⟩).memory :=
  laidMetH_of_parts3 (fuel := 8) (laidMet_of_run' 8 (by kernel_rfl) (by kernel_rfl)) (by kernel_rfl) (by kernel_rfl)

theorem two_of_head {W : World} {name : String} {a b : Int} {rest : List (String × DataW Unit)} {g : Nat}
    (hg : Tryd.prog.globalNamed name = some g) (hty : (Tryd.prog.globals[g]?).map (·.type) = some 44)
    (h : laidMet Tryd.prog ((name, .agg [.lit (.int .i64 a), .lit (.int .i64 b)]) :: rest) W) : W.cell? ⟨g, 0, none⟩ = some (iv a) ∧ W.cell? ⟨g, 1, none⟩ = some (iv b) := by
  obtain ⟨ps, ⟨g', t', cs, fuel, p, q, hg', ht', hvar, hd, _, _⟩, _⟩ := h
  obtain rfl := Option.some.inj (hg.symm.trans hg')
  obtain rfl := Option.some.inj (hty.symm.trans ht')
  have c3 : Tryd.prog.cellsOf 3 = 1 := by kernel_rfl
  have c44 : Tryd.prog.cellsOf 44 = 2 := by kernel_rfl
  obtain ⟨y0, y1, n, hx, hl, h0, h1⟩ := trod_struct2 Tryd.underlying44 hd
  simp only [Prod.mk.injEq, DataW.agg.injEq, List.cons.injEq, and_true] at hx
  obtain ⟨x, e0, e0', _⟩ := DataW.trod_int Tryd.underlying3 h0
  obtain ⟨y, e1, e1', _⟩ := DataW.trod_int Tryd.underlying3 h1
  have k0 := World.var?_cell hg' hvar 0
  have k1 := World.var?_cell hg' hvar 1
  obtain ⟨l⟩ := cs
  rw [c44] at hl
  rw [c3] at e0 e1
  obtain ⟨⟨hx0, hx1⟩, _⟩ := hx
  rw [e0'] at hx0
  rw [e1'] at hx1
  match l, hl with
  | [u0, u1], _ =>
    simp at e0 e1 hx0 hx1
    subst e0 e1 hx0 hx1
    exact ⟨by simpa using k0, by simpa using k1⟩

theorem tab_higher8 {W : World} {rest : List (String × DataW Unit)} (h : laidMet Tryd.prog (("jetsam/sums.higher8", Rows.laid_jetsam_sums_higher8) :: rest) W) : ∀ k, k < 16 → W.cell? ⟨1, k, none⟩ = some (iv (hi8.getD k 0 : Nat)) := by
  have h' : laidMet Tryd.prog (("jetsam/sums.higher8", Lib.tabData .i64 (hi8.map fun (n : Nat) => (n : Int))) :: rest) W := h
  have ht := Lib.tabIs_of_head (g := 1) (t := 46) (e := 3) (n := 16) (by kernel_rfl) (by kernel_rfl) Tryd.underlying46 Tryd.underlying3 (by kernel_rfl) (by kernel_rfl) h'
  intro k hk
  have hc := ht.cell (g := 1) (by kernel_rfl) k (by simpa [hi8] using hk)
  rw [hc]
  have hl : k < hi8.length := hk
  simp [hl]

theorem tab_lower8 {W : World} {rest : List (String × DataW Unit)} (h : laidMet Tryd.prog (("jetsam/sums.lower8", Rows.laid_jetsam_sums_lower8) :: rest) W) : ∀ k, k < 16 → W.cell? ⟨2, k, none⟩ = some (iv (lo8.getD k 0 : Nat)) := by
  have h' : laidMet Tryd.prog (("jetsam/sums.lower8", Lib.tabData .i64 (lo8.map fun (n : Nat) => (n : Int))) :: rest) W := h
  have ht := Lib.tabIs_of_head (g := 2) (t := 46) (e := 3) (n := 16) (by kernel_rfl) (by kernel_rfl) Tryd.underlying46 Tryd.underlying3 (by kernel_rfl) (by kernel_rfl) h'
  intro k hk
  have hc := ht.cell (g := 2) (by kernel_rfl) k (by simpa [lo8] using hk)
  rw [hc]
  have hl : k < lo8.length := hk
  simp [hl]

theorem tab_higher16 {W : World} {rest : List (String × DataW Unit)} (h : laidMet Tryd.prog (("jetsam/sums.higher16", Rows.laid_jetsam_sums_higher16) :: rest) W) : ∀ k, k < 16 → W.cell? ⟨4, k, none⟩ = some (iv (hi16.getD k 0 : Nat)) := by
  have h' : laidMet Tryd.prog (("jetsam/sums.higher16", Lib.tabData .i64 (hi16.map fun (n : Nat) => (n : Int))) :: rest) W := h
  have ht := Lib.tabIs_of_head (g := 4) (t := 46) (e := 3) (n := 16) (by kernel_rfl) (by kernel_rfl) Tryd.underlying46 Tryd.underlying3 (by kernel_rfl) (by kernel_rfl) h'
  intro k hk
  have hc := ht.cell (g := 4) (by kernel_rfl) k (by simpa [hi16] using hk)
  rw [hc]
  have hl : k < hi16.length := hk
  simp [hl]

theorem tab_lower16 {W : World} {rest : List (String × DataW Unit)} (h : laidMet Tryd.prog (("jetsam/sums.lower16", Rows.laid_jetsam_sums_lower16) :: rest) W) : ∀ k, k < 16 → W.cell? ⟨5, k, none⟩ = some (iv (lo16.getD k 0 : Nat)) := by
  have h' : laidMet Tryd.prog (("jetsam/sums.lower16", Lib.tabData .i64 (lo16.map fun (n : Nat) => (n : Int))) :: rest) W := h
  have ht := Lib.tabIs_of_head (g := 5) (t := 46) (e := 3) (n := 16) (by kernel_rfl) (by kernel_rfl) Tryd.underlying46 Tryd.underlying3 (by kernel_rfl) (by kernel_rfl) h'
  intro k hk
  have hc := ht.cell (g := 5) (by kernel_rfl) k (by simpa [lo16] using hk)
  rw [hc]
  have hl : k < lo16.length := hk
  simp [hl]

theorem of_laid {W : World} (h : laidMetH Tryd.prog laid6 W) : Laid W := by
  rw [MakeChecks.laidMetH_plain _ _ _ (by kernel_rfl)] at h
  have h : laidMet Tryd.prog [("jetsam/sums.eight", Rows.laid_jetsam_sums_eight), ("jetsam/sums.sixteen", Rows.laid_jetsam_sums_sixteen), ("jetsam/sums.higher8", Rows.laid_jetsam_sums_higher8), ("jetsam/sums.lower8", Rows.laid_jetsam_sums_lower8), ("jetsam/sums.higher16", Rows.laid_jetsam_sums_higher16), ("jetsam/sums.lower16", Rows.laid_jetsam_sums_lower16)] W := h
  have a := two_of_head (g := 0) (by kernel_rfl) (by kernel_rfl) h
  have b := two_of_head (g := 3) (by kernel_rfl) (by kernel_rfl) (laidMet.tail h)
  have t2 := laidMet.tail (laidMet.tail h)
  have t3 := laidMet.tail t2
  have t4 := laidMet.tail t3
  have t5 := laidMet.tail t4
  exact ⟨a.1, a.2, b.1, b.2, tab_higher8 t2, tab_lower8 t3, tab_higher16 t4, tab_lower16 t5⟩

/-- numbers of Go's int -/
def Fits (n : Int) : Prop := -9223372036854775808 ≤ n ∧ n ≤ 9223372036854775807
theorem fits_of_wf {n : Int} (h : (Lit.int .i64 n).wf = true) : Fits n := by
  have := h
  simp [Lit.wf, IntKind.min, IntKind.max, IntKind.signed, IntKind.bits] at this
  exact ⟨by omega, by omega⟩
section
variable {H : Type} {enc : TypeId × Value → H} {w : World}
theorem sized_bytes {ts : List TypeId} {ds : List (DataW H)} (h : (DataW.weightsEach Tryd.prog ts ds).all (· ≤ reachBytes) = true) {j : Nat} {d : DataW H} (ht : ts[j]? = some 22) (hd : ds[j]? = some d) :
    ∀ elems spare, d = .slice elems spare → elems.length + spare.length ≤ 140737488355328 := by
  rintro elems spare rfl
  have h8 := sized_slice h ht hd Tryd.underlying22
  have hby : Tryd.prog.bytesOf 5 = 1 := by kernel_rfl
  rw [hby] at h8
  unfold reachBytes at h8
  omega
/-- a slice of bytes that came in -/
theorem open_src {A : Option Addr} {len cap : Nat} {d : DataW H} {p : List MemPlace} (h : DataW.Trod enc Tryd.prog w 0 (fun _ => true) true 22 (.slice A len cap) d p)
    (hs : ∀ elems spare, d = .slice elems spare → elems.length + spare.length ≤ 140737488355328) :
    ∃ bs : List Nat, Src w (.slice A len cap) bs ∧ len ≤ cap ∧ cap ≤ 140737488355328 ∧ (A = none → cap = 0) := by
  obtain ⟨fuel, hf⟩ := h
  rcases open_ints Tryd.underlying22 Tryd.underlying5 (by kernel_rfl) hf with ⟨hcs, _⟩ | ⟨x, l, c, zs, hcs, _, hl, hm, hz, hx, hcell, hwz⟩
  · simp [Value.cells] at hcs
    obtain ⟨rfl, rfl, rfl⟩ := hcs
    exact ⟨[], Src.nil w, Nat.le_refl _, by omega, fun _ => rfl⟩
  · simp [Value.cells] at hcs
    obtain ⟨rfl, rfl, rfl⟩ := hcs
    have hz' : zs.length = cap := by simpa using hz
    simp only [Prod.mk.injEq] at hx
    have hsm := hs _ _ hx.1
    simp only [lits, List.length_map, List.length_take, List.length_drop] at hsm
    have hb : ∀ z ∈ zs, 0 ≤ z ∧ z ≤ 255 := fun z hzm => by
      have := hwz z hzm
      simpa [Lit.wf, IntKind.min, IntKind.max, IntKind.signed, IntKind.bits] using this
    have hlen : ((zs.take len).map Int.toNat).length = len := by rw [List.length_map, List.length_take, Nat.min_eq_left (by omega)]
    refine ⟨(zs.take len).map Int.toNat, ⟨⟨some x, cap, by rw [hlen], fun j hj => ⟨x, rfl, ?_⟩⟩, by omega, fun y hy => ?_⟩, hl, by omega, fun e => by cases e⟩
    · rw [hlen] at hj
      have hjz : j < zs.length := by omega
      have h2 := hb zs[j] (List.getElem_mem hjz)
      rw [hcell j hjz]
      simp only [List.getElem_map, List.getElem_take, byt, List.getD_eq_getElem?_getD, List.getElem?_eq_getElem hjz, Option.getD_some]
      rw [Int.toNat_of_nonneg h2.1]
    · obtain ⟨z, hzm, rfl⟩ := List.mem_map.1 hy
      have := hb z (List.mem_of_mem_take hzm)
      omega
theorem open_two {b0 : Nat} {v : Value} {d : DataW H} {p : List MemPlace} (hv : Value.okWide Tryd.prog w .any b0 41 v) (h : DataW.Trod enc Tryd.prog w 0 (fun _ => true) true 41 v d p) :
    ∃ x y : Int, v = .agg #[iv x, iv y] ∧ (Lit.int .i64 x).wf = true ∧ (Lit.int .i64 y).wf = true := by
  have hu : Tryd.prog.underlying 41 = some (.array 2 3) := by kernel_rfl
  have hc1 : Tryd.prog.cellsOf 3 = 1 := by kernel_rfl
  have hc2 : Tryd.prog.cellsOf 41 = 2 := by kernel_rfl
  simp only [Value.okWide, hu] at hv
  obtain ⟨cs, rfl, hsz, _⟩ := hv
  obtain ⟨l⟩ := cs
  obtain ⟨fuel, hf⟩ := h
  obtain ⟨xs, m, _, hx, hl, hn, hi⟩ := DataW.trod_array hu hf
  rw [hc1] at hi
  match l, hsz.trans hc2 with
  | [c0, c1], _ =>
    match xs, hn with
    | [y0, y1], _ =>
      have h0 := hi 0 (by omega)
      have h1 := hi 1 (by omega)
      obtain ⟨x, e0, _, w0⟩ := DataW.trod_int Tryd.underlying3 (by simpa [Value.cells] using h0)
      obtain ⟨y, e1, _, w1⟩ := DataW.trod_int Tryd.underlying3 (by simpa [Value.cells] using h1)
      simp at e0 e1
      subst e0 e1
      exact ⟨x, y, rfl, w0, w1⟩
/-- a slice of slices of bytes that came in: what its cells hold -/
theorem open_lists {A : Option Addr} {len cap : Nat} {d : DataW H} {p : List MemPlace} (h : DataW.Trod enc Tryd.prog w 0 (fun _ => true) true 35 (.slice A len cap) d p) :
    ∃ bss : List (List Nat), bss.length = len ∧ len ≤ maxLen ∧ ∀ j, (hj : j < bss.length) → ∃ ad A' c', A = some ad ∧ w.cell? (ad.add j) = some (.slice A' bss[j].length c') ∧ bss[j].length ≤ maxLen ∧ (bss[j].length ≤ 140737488355328 → Src w (.slice A' bss[j].length c') bss[j]) := by
  obtain ⟨fuel, hf⟩ := h
  rcases Deep.open_int_rows Tryd.underlying35 Tryd.underlying22 Tryd.underlying5 (by kernel_rfl) (by kernel_rfl) hf with ⟨hcs, _⟩ | ⟨a, l, c, A', L, C, Z, hcs, _, hl, hm, _, hr⟩
  · simp [Value.cells] at hcs
    obtain ⟨rfl, rfl, rfl⟩ := hcs
    exact ⟨[], rfl, by unfold maxLen; omega, fun j hj => by simp at hj⟩
  · simp [Value.cells] at hcs
    obtain ⟨rfl, rfl, rfl⟩ := hcs
    refine ⟨(List.range len).map fun j => ((Z j).take (L j)).map Int.toNat, by simp, by omega, fun j hj => ?_⟩
    have hj' : j < len := by simpa using hj
    obtain ⟨hc, hL, hC, hZ, hwz, hn, hA⟩ := hr j (by omega)
    have hlen : (((Z j).take (L j)).map Int.toNat).length = L j := by rw [List.length_map, List.length_take, Nat.min_eq_left (by omega)]
    simp only [List.getElem_map, List.getElem_range]
    refine ⟨a, A' j, C j, rfl, by rw [hlen]; exact hc, by rw [hlen]; omega, fun hs => ⟨⟨A' j, C j, rfl, fun k hk => ?_⟩, hs, fun y hy => ?_⟩⟩
    · rw [hlen] at hk
      cases hAj : A' j with
      | none => have := hn hAj; omega
      | some a' =>
        refine ⟨a', rfl, ?_⟩
        rw [(hA a' hAj).2 k (by omega)]
        have hkz : k < (Z j).length := by omega
        have h2 := hwz (Z j)[k] (List.getElem_mem hkz)
        simp [Lit.wf, IntKind.min, IntKind.max, IntKind.signed, IntKind.bits] at h2
        simp only [List.getElem_map, List.getElem_take, byt, List.getD_eq_getElem?_getD, List.getElem?_eq_getElem hkz, Option.getD_some]
        rw [Int.toNat_of_nonneg h2.1]
    · obtain ⟨z, hzm, rfl⟩ := List.mem_map.1 hy
      have h2 := hwz z (List.mem_of_mem_take hzm)
      simp [Lit.wf, IntKind.min, IntKind.max, IntKind.signed, IntKind.bits] at h2
      omega
end
end Go.Proofs.YtmnnjbamphoghaaDoor
