/-
  What the rows' condition on package-level variables gives; the world that start-up leaves; the arguments, opened.
-/
import Derived.Test.YtmnnjbamphoghaaDoorAwaken
import Derived.Test.YtmnnjbamphoghaaDoorTie
import Derived.Test.YtmnnjbamphoghaaDoorCards
import Derived.ProofKit
import Derived.OpenShut
import Derived.LaidMore
import Derived.LaidHandle
import Derived.Lib.LaidTab
import Derived.Lib.SmallJoins
import Derived.Deep.Slices
import Derived.Stop.LaidErr
import Derived.Stop.Joined
import Derived.SizedLaws
import Derived.SevenTiedAt
namespace Go.Proofs.YtmnnjbamphoghaaDoor
open Go.ChangeShapes Go.WideShapes Go.ChangeAt Go.RowKit Go.Joins

theorem Tryd.own : ownKnob Tryd.prog.godebug = none := by kernel_rfl
theorem Tryd.laidOut : laidOutB Tryd.prog = true := by kernel_rfl
/-- the rows' list -/
abbrev laid6 : List (String × DataW Unit) := Rows.sumsShiftRow.laid

theorem door_met (os : Os) (args : Array Value) : laidMetH Tryd.prog laid6 ((World.doorLaid Tryd.prog 39 os).forCall (fun _ _ => 0) ⟨#[], args, []⟩).memory :=
  laidMetH_of_parts3 (fuel := 8) (laidMet_of_run' 8 (by kernel_rfl) (by kernel_rfl)) (by kernel_rfl) (by kernel_rfl)

theorem two_of_head {W : World} {name : String} {a b : Int} {rest : List (String × DataW Unit)} {g : Nat}
    (hg : Tryd.prog.globalNamed name = some g) (hty : (Tryd.prog.globals[g]?).map (·.type) = some 44)
    (h : laidMet Tryd.prog ((name, .agg [.lit (.int .i64 a), .lit (.int .i64 b)]) :: rest) W) : W.cell? ⟨g, 0, none⟩ = some (iv a) ∧ W.cell? ⟨g, 1, none⟩ = some (iv b) := by
  obtain ⟨ps, ⟨g', t', cs, fuel, p, q, hg', ht', hvar, hd, _, _⟩, _⟩ := h
  obtain rfl := Option.some.inj (hg.symm.trans hg')
  obtain rfl := Option.some.inj (hty.symm.trans ht')
  have c3 : Tryd.prog.cellsOf 3 = 1 := by kernel_rfl
  have c44 : Tryd.prog.cellsOf 44 = 2 := by kernel_rfl
  obtain ⟨y0, y1, n, hx, hl, h0, h1⟩ := trod_struct2 Tryd.underlying44 hd
  simp only [Prod.mk.injEq, DataW.agg.injEq, List.cons.injEq, and_true] at hx
  obtain ⟨x, e0, e0', _⟩ := DataW.trod_int Tryd.underlying3 h0
  obtain ⟨y, e1, e1', _⟩ := DataW.trod_int Tryd.underlying3 h1
  have k0 := World.var?_cell hg' hvar 0
  have k1 := World.var?_cell hg' hvar 1
  obtain ⟨l⟩ := cs
  rw [c44] at hl
  rw [c3] at e0 e1
  obtain ⟨⟨hx0, hx1⟩, _⟩ := hx
  rw [e0'] at hx0
  rw [e1'] at hx1
  match l, hl with
  | [u0, u1], _ =>
    simp at e0 e1 hx0 hx1
    subst e0 e1 hx0 hx1
    exact ⟨by simpa using k0, by simpa using k1⟩

theorem tab_higher8 {W : World} {rest : List (String × DataW Unit)} (h : laidMet Tryd.prog (("jetsam/sums.higher8", Rows.laid_jetsam_sums_higher8) :: rest) W) : ∀ k, k < 16 → W.cell? ⟨1, k, none⟩ = some (iv (hi8.getD k 0 : Nat)) := by
  have h' : laidMet Tryd.prog (("jetsam/sums.higher8", Lib.tabData .i64 (hi8.map fun (n : Nat) => (n : Int))) :: rest) W := h
  have ht := Lib.tabIs_of_head (g := 1) (t := 46) (e := 3) (n := 16) (by kernel_rfl) (by kernel_rfl) Tryd.underlying46 Tryd.underlying3 (by kernel_rfl) (by kernel_rfl) h'
  intro k hk
  have hc := ht.cell (g := 1) (by kernel_rfl) k (by simpa [hi8] using hk)
  rw [hc]
  have hl : k < hi8.length := hk
  simp [hl]

theorem tab_lower8 {W : World} {rest : List (String × DataW Unit)} (h : laidMet Tryd.prog (("jetsam/sums.lower8", Rows.laid_jetsam_sums_lower8) :: rest) W) : ∀ k, k < 16 → W.cell? ⟨2, k, none⟩ = some (iv (lo8.getD k 0 : Nat)) := by
  have h' : laidMet Tryd.prog (("jetsam/sums.lower8", Lib.tabData .i64 (lo8.map fun (n : Nat) => (n : Int))) :: rest) W := h
  have ht := Lib.tabIs_of_head (g := 2) (t := 46) (e := 3) (n := 16) (by kernel_rfl) (by kernel_rfl) Tryd.underlying46 Tryd.underlying3 (by kernel_rfl) (by kernel_rfl) h'
  intro k hk
  have hc := ht.cell (g := 2) (by kernel_rfl) k (by simpa [lo8] using hk)
  rw [hc]
  have hl : k < lo8.length := hk
  simp [hl]

theorem tab_higher16 {W : World} {rest : List (String × DataW Unit)} (h : laidMet Tryd.prog (("jetsam/sums.higher16", Rows.laid_jetsam_sums_higher16) :: rest) W) : ∀ k, k < 16 → W.cell? ⟨4, k, none⟩ = some (iv (hi16.getD k 0 : Nat)) := by
  have h' : laidMet Tryd.prog (("jetsam/sums.higher16", Lib.tabData .i64 (hi16.map fun (n : Nat) => (n : Int))) :: rest) W := h
  have ht := Lib.tabIs_of_head (g := 4) (t := 46) (e := 3) (n := 16) (by kernel_rfl) (by kernel_rfl) Tryd.underlying46 Tryd.underlying3 (by kernel_rfl) (by kernel_rfl) h'
  intro k hk
  have hc := ht.cell (g := 4) (by kernel_rfl) k (by simpa [hi16] using hk)
  rw [hc]
  have hl : k < hi16.length := hk
  simp [hl]

theorem tab_lower16 {W : World} {rest : List (String × DataW Unit)} (h : laidMet Tryd.prog (("jetsam/sums.lower16", Rows.laid_jetsam_sums_lower16) :: rest) W) : ∀ k, k < 16 → W.cell? ⟨5, k, none⟩ = some (iv (lo16.getD k 0 : Nat)) := by
  have h' : laidMet Tryd.prog (("jetsam/sums.lower16", Lib.tabData .i64 (lo16.map fun (n : Nat) => (n : Int))) :: rest) W := h
  have ht := Lib.tabIs_of_head (g := 5) (t := 46) (e := 3) (n := 16) (by kernel_rfl) (by kernel_rfl) Tryd.underlying46 Tryd.underlying3 (by kernel_rfl) (by kernel_rfl) h'
  intro k hk
  have hc := ht.cell (g := 5) (by kernel_rfl) k (by simpa [lo16] using hk)
  rw [hc]
  have hl : k < lo16.length := hk
  simp [hl]

theorem of_laid {W : World} (h : laidMetH Tryd.prog laid6 W) : Laid W := by
  rw [MakeChecks.laidMetH_plain _ _ _ (by kernel_rfl)] at h
  have h : laidMet Tryd.prog [("jetsam/sums.eight", Rows.laid_jetsam_sums_eight), ("jetsam/sums.sixteen", Rows.laid_jetsam_sums_sixteen), ("jetsam/sums.higher8", Rows.laid_jetsam_sums_higher8), ("jetsam/sums.lower8", Rows.laid_jetsam_sums_lower8), ("jetsam/sums.higher16", Rows.laid_jetsam_sums_higher16), ("jetsam/sums.lower16", Rows.laid_jetsam_sums_lower16)] W := h
  have a := two_of_head (g := 0) (by kernel_rfl) (by kernel_rfl) h
  have b := two_of_head (g := 3) (by kernel_rfl) (by kernel_rfl) (laidMet.tail h)
  have t2 := laidMet.tail (laidMet.tail h)
  have t3 := laidMet.tail t2
  have t4 := laidMet.tail t3
  have t5 := laidMet.tail t4
  exact ⟨a.1, a.2, b.1, b.2, tab_higher8 t2, tab_lower8 t3, tab_higher16 t4, tab_lower16 t5⟩

/-- numbers of Go's int -/
def Fits (n : Int) : Prop := -9223372036854775808 ≤ n ∧ n ≤ 9223372036854775807
theorem fits_of_wf {n : Int} (h : (Lit.int .i64 n).wf = true) : Fits n := by
  have := h
  simp [Lit.wf, IntKind.min, IntKind.max, IntKind.signed, IntKind.bits] at this
  exact ⟨by omega, by omega⟩
end Go.Proofs.YtmnnjbamphoghaaDoor
