/-
  What the rows' condition on the package-level variable gives; the world that start-up leaves; the arguments, opened.
-/
import Derived.Test.YthjilkgljobfhaaDoorCAwake
import Derived.Test.YthjilkgljobfhaaDoorTie
import Derived.Test.YthjilkgljobfhaaDoorCards
import Derived.ProofKit
import Derived.OpenShut
import Derived.LaidMore
import Derived.LaidHandle
import Derived.Lib.LaidTab
import Derived.Lib.SmallJoins
import Derived.Deep.Slices
import Derived.Deep.Strs
import Derived.Stop.LaidErr
import Derived.Stop.Joined
import Derived.SizedLaws
import Derived.SevenTiedAt
namespace Go.Proofs.YthjilkgljobfhaaDoor
open Go.ChangeShapes Go.WideShapes Go.ChangeAt Go.RowKit Go.Joins

theorem Tryd.own : ownKnob Tryd.prog.godebug = none := by kernel_rfl
theorem Tryd.laidOut : laidOutB Tryd.prog = true := by kernel_rfl
/-- the rows' list -/
abbrev laid1 : List (String × DataW Unit) := Rows.codedPutsRow.laid

theorem door_met (os : Os) (args : Array Value) : laidMetH Tryd.prog laid1 ((World.doorLaid Tryd.prog 21 os).forCall (fun _ _ => 0) ⟨#[], args, []⟩).memory :=
  laidMetH_of_parts3 (fuel := 8) (laidMet_of_run' 8 (by kernel_rfl) (by kernel_rfl)) (by kernel_rfl) (by kernel_rfl)

theorem kinds_datum {H : Type} : (Rows.laid_jetsam_coded_kinds : DataW H) = .agg ((List.range 7).map fun k => .agg [.lit (.int .i64 (bel.getD k 0 : Nat)), .lit (.int .i64 (mrk.getD k 0 : Nat)), .lit (.int .i64 (bts.getD k 0 : Nat))]) := rfl

theorem of_laid {W : World} (h0 : laidMetH Tryd.prog laid1 W) : Laid W := by
  rw [MakeChecks.laidMetH_plain _ _ _ (by kernel_rfl)] at h0
  have h : laidMet Tryd.prog [("jetsam/coded.kinds", Rows.laid_jetsam_coded_kinds)] W := h0
  obtain ⟨ps, ⟨g', t', cs, fuel, p, q, hg', ht', hvar, hd, _, _⟩, _⟩ := h
  obtain rfl := Option.some.inj ((show Tryd.prog.globalNamed "jetsam/coded.kinds" = some 0 by kernel_rfl).symm.trans hg')
  obtain rfl := Option.some.inj ((show (Tryd.prog.globals[0]?).map (·.type) = some 40 by kernel_rfl).symm.trans ht')
  have c3 : Tryd.prog.cellsOf 3 = 1 := by kernel_rfl
  have c39 : Tryd.prog.cellsOf 39 = 3 := by kernel_rfl
  rw [kinds_datum] at hd
  obtain ⟨xs, m, _, hx, hl, hxl, hat⟩ := DataW.trod_array Tryd.underlying40 hd
  rw [c39] at hat
  simp only [Prod.mk.injEq, DataW.agg.injEq] at hx
  obtain ⟨hx, _⟩ := hx
  have key : ∀ k, k < 7 → W.cell? ⟨0, k * 3, none⟩ = some (iv (bel.getD k 0 : Nat)) ∧ W.cell? ⟨0, k * 3 + 1, none⟩ = some (iv (mrk.getD k 0 : Nat)) ∧ W.cell? ⟨0, k * 3 + 2, none⟩ = some (iv (bts.getD k 0 : Nat)) := by
    intro k hk
    have hy := hat k hk
    have hkx : k < xs.length := by omega
    rw [List.getElem?_eq_getElem hkx] at hy
    have h1 : (xs.map (·.1))[k]? = some xs[k].1 := by simp [hkx]
    rw [← hx] at h1
    simp only [List.getElem?_map, List.getElem?_range hk, Option.map_some, Option.some.injEq] at h1
    obtain ⟨y0, y1, y2, n, e, hl3, t0, t1, t2⟩ := Deep.trod_struct3 Tryd.underlying39 hy
    rw [e] at h1
    simp only [DataW.agg.injEq, List.cons.injEq, and_true] at h1
    obtain ⟨x0, a0, b0, _⟩ := DataW.trod_int Tryd.underlying3 t0
    obtain ⟨x1, a1, b1, _⟩ := DataW.trod_int Tryd.underlying3 t1
    obtain ⟨x2, a2, b2, _⟩ := DataW.trod_int Tryd.underlying3 t2
    obtain ⟨h10, h11, h12⟩ := h1
    subst b0 b1 b2
    simp only [DataW.lit.injEq, Lit.int.injEq, true_and] at h10 h11 h12
    rw [c3] at a0 a1 a2
    have k0 := World.var?_cell hg' hvar (k * 3)
    have k1 := World.var?_cell hg' hvar (k * 3 + 1)
    have k2 := World.var?_cell hg' hvar (k * 3 + 2)
    have g0 := congrArg (·[0]?) a0
    have g1 := congrArg (·[0]?) a1
    have g2 := congrArg (·[0]?) a2
    simp [List.getElem?_drop] at g0 g1 g2
    rw [h10, h11, h12]
    exact ⟨k0.trans g0, k1.trans g1, k2.trans g2⟩
  exact ⟨fun k hk => (key k hk).1, fun k hk => (key k hk).2.1, fun k hk => (key k hk).2.2⟩

/-- numbers of Go's int -/
def Fits (n : Int) : Prop := -9223372036854775808 ≤ n ∧ n ≤ 9223372036854775807
theorem fits_of_wf {n : Int} (h : (Lit.int .i64 n).wf = true) : Fits n := by
  have := h
  simp [Lit.wf, IntKind.min, IntKind.max, IntKind.signed, IntKind.bits] at this
  exact ⟨by omega, by omega⟩
section
variable {H : Type} {enc : TypeId × Value → H} {w : World}
theorem sized_bytes {ts : List TypeId} {ds : List (DataW H)} (h : (DataW.weightsEach Tryd.prog ts ds).all (· ≤ reachBytes) = true) {j : Nat} {d : DataW H} (ht : ts[j]? = some 22) (hd : ds[j]? = some d) :
    ∀ elems spare, d = .slice elems spare → elems.length + spare.length ≤ 140737488355328 := by
  rintro elems spare rfl
  have h8 := sized_slice h ht hd Tryd.underlying22
  have hby : Tryd.prog.bytesOf 5 = 1 := by kernel_rfl
  rw [hby] at h8
  unfold reachBytes at h8
  omega
/-- a slice of bytes that came in -/
theorem open_src {A : Option Addr} {len cap : Nat} {d : DataW H} {p : List MemPlace} (h : DataW.Trod enc Tryd.prog w 0 (fun _ => true) true 22 (.slice A len cap) d p)
    (hs : ∀ elems spare, d = .slice elems spare → elems.length + spare.length ≤ 140737488355328) :
    ∃ bs : List Nat, Src w (.slice A len cap) bs ∧ len ≤ cap ∧ cap ≤ 140737488355328 ∧ (A = none → cap = 0) := by
  obtain ⟨fuel, hf⟩ := h
  rcases open_ints Tryd.underlying22 Tryd.underlying5 (by kernel_rfl) hf with ⟨hcs, _⟩ | ⟨x, l, c, zs, hcs, _, hl, hm, hz, hx, hcell, hwz⟩
  · simp [Value.cells] at hcs
    obtain ⟨rfl, rfl, rfl⟩ := hcs
    exact ⟨[], Src.nil w, Nat.le_refl _, by omega, fun _ => rfl⟩
  · simp [Value.cells] at hcs
    obtain ⟨rfl, rfl, rfl⟩ := hcs
    have hz' : zs.length = cap := by simpa using hz
    simp only [Prod.mk.injEq] at hx
    have hsm := hs _ _ hx.1
    simp only [lits, List.length_map, List.length_take, List.length_drop] at hsm
    have hb : ∀ z ∈ zs, 0 ≤ z ∧ z ≤ 255 := fun z hzm => by
      have := hwz z hzm
      simpa [Lit.wf, IntKind.min, IntKind.max, IntKind.signed, IntKind.bits] using this
    have hlen : ((zs.take len).map Int.toNat).length = len := by rw [List.length_map, List.length_take, Nat.min_eq_left (by omega)]
    refine ⟨(zs.take len).map Int.toNat, ⟨⟨some x, cap, by rw [hlen], fun j hj => ⟨x, rfl, ?_⟩⟩, by omega, fun y hy => ?_⟩, hl, by omega, fun e => by cases e⟩
    · rw [hlen] at hj
      have hjz : j < zs.length := by omega
      have h2 := hb zs[j] (List.getElem_mem hjz)
      rw [hcell j hjz]
      simp only [List.getElem_map, List.getElem_take, byt, List.getD_eq_getElem?_getD, List.getElem?_eq_getElem hjz, Option.getD_some]
      rw [Int.toNat_of_nonneg h2.1]
    · obtain ⟨z, hzm, rfl⟩ := List.mem_map.1 hy
      have := hb z (List.mem_of_mem_take hzm)
      omega
end
end Go.Proofs.YthjilkgljobfhaaDoor
