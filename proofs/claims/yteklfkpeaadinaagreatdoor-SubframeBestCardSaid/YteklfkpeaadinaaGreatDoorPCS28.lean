/-
  What the rows' condition on package-level variables gives; the world that start-up leaves; the arguments, opened.
-/
import Derived.Test.YteklfkpeaadinaaGreatDoorPCSH
import Derived.Test.YteklfkpeaadinaaGreatDoorPCS6
import Derived.Deep.RegionLaw
import Derived.Laws.CopyOwn
import Derived.Test.YteklfkpeaadinaaGreatDoorPCS16
import Derived.Test.YteklfkpeaadinaaGreatDoorPCS8
import Derived.Test.YteklfkpeaadinaaGreatDoorPCG11
import Derived.Test.YteklfkpeaadinaaGreatDoorPCS21
import Derived.Test.YteklfkpeaadinaaGreatDoorPCS22
import Derived.Test.YteklfkpeaadinaaGreatDoorPCS24
import Derived.Test.YteklfkpeaadinaaGreatDoorPCG19
import Derived.Test.YteklfkpeaadinaaGreatDoorPCS10
import Derived.Test.YteklfkpeaadinaaGreatDoorTie
import Derived.Test.YteklfkpeaadinaaGreatDoorCards
import Derived.ProofKit
import Derived.OpenShut
import Derived.LaidMore
import Derived.LaidHandle
import Derived.Lib.LaidTab
import Derived.Lib.SmallJoins
import Derived.Deep.Slices
import Derived.Deep.Strs
import Derived.Stop.LaidErr
import Derived.Stop.Joined
import Derived.SizedLaws
import Derived.SevenTiedAt
namespace Go.Proofs.YteklfkpeaadinaaGreatDoor.S
open Go.ChangeShapes Go.WideShapes Go.ChangeAt Go.RowKit Go.Joins
open K (linV)
theorem Tryz.own : ownKnob Tryz.prog.godebug = none := by kernel_rfl
theorem Tryz.laidOut : laidOutB Tryz.prog = true := by kernel_rfl
/-- the rows' list -/
abbrev laid3 : List (String × DataW Unit) := Rows.subframeBackRow.laid
theorem door_met (os : Os) (args : Array Value) : laidMetH Tryz.prog laid3 ((World.doorLaid Tryz.prog 65 os).forCall (fun _ _ => 0) ⟨#[], args, []⟩).memory :=
  laidMetH_of_parts3 (fuel := 8) (laidMet_of_run' 8 (by kernel_rfl) (by kernel_rfl)) (by kernel_rfl) (by kernel_rfl)
theorem tab_64 {W : World} {rest : List (String × DataW Unit)} (h : laidMet Tryz.prog (("math/bits.deBruijn64tab", Rows.laid_math_bits_deBruijn64tab) :: rest) W) : Tab W := by
  have h' : laidMet Tryz.prog (("math/bits.deBruijn64tab", Lib.tabData .u8 (Lib.deBruijn64tab.map fun (n : Nat) => (n : Int))) :: rest) W := h
  have ht := Lib.tabIs_of_head (g := 2) (t := 174) (e := 5) (n := 64) (by kernel_rfl) (by kernel_rfl) Tryz.underlying174 Tryz.underlying5 (by kernel_rfl) (by kernel_rfl) h'
  intro k hk
  have hc := ht.cell (g := 2) (by kernel_rfl) k (by simpa [Lib.deBruijn64tab] using hk)
  rw [hc]
  have hl : k < Lib.deBruijn64tab.length := hk
  simp [hl]
theorem kinds_datum {H : Type} : (Rows.laid_jetsam_subframe_kinds : DataW H) = .agg ((List.range 4).map fun k => .agg [.lit (.int .i64 (kC k)), .lit (.int .i64 (kL k)), .lit (.int .i64 (kM k))]) := rfl
theorem tab_kinds {W : World} {rest : List (String × DataW Unit)} (h : laidMet Tryz.prog (("jetsam/subframe.kinds", Rows.laid_jetsam_subframe_kinds) :: rest) W) : Laid W := by
  obtain ⟨ps, ⟨g', t', cs, fuel, p, q, hg', ht', hvar, hd, _, _⟩, _⟩ := h
  obtain rfl := Option.some.inj ((show Tryz.prog.globalNamed "jetsam/subframe.kinds" = some 0 by kernel_rfl).symm.trans hg')
  obtain rfl := Option.some.inj ((show (Tryz.prog.globals[0]?).map (·.type) = some 115 by kernel_rfl).symm.trans ht')
  have c3 : Tryz.prog.cellsOf 3 = 1 := by kernel_rfl
  have c39 : Tryz.prog.cellsOf 114 = 3 := by kernel_rfl
  rw [kinds_datum] at hd
  obtain ⟨xs, m, _, hx, hl, hxl, hat⟩ := DataW.trod_array Tryz.underlying115 hd
  rw [c39] at hat
  simp only [Prod.mk.injEq, DataW.agg.injEq] at hx
  obtain ⟨hx, _⟩ := hx
  have key : ∀ k, k < 4 → W.cell? ⟨0, k * 3, none⟩ = some (iv (kC k)) ∧ W.cell? ⟨0, k * 3 + 1, none⟩ = some (iv (kL k)) ∧ W.cell? ⟨0, k * 3 + 2, none⟩ = some (iv (kM k)) := by
    intro k hk
    have hy := hat k hk
    have hkx : k < xs.length := by omega
    rw [List.getElem?_eq_getElem hkx] at hy
    have h1 : (xs.map (·.1))[k]? = some xs[k].1 := by simp [hkx]
    rw [← hx] at h1
    simp only [List.getElem?_map, List.getElem?_range hk, Option.map_some, Option.some.injEq] at h1
    obtain ⟨y0, y1, y2, n, e, hl3, t0, t1, t2⟩ := Deep.trod_struct3 Tryz.underlying114 hy
    rw [e] at h1
    simp only [DataW.agg.injEq, List.cons.injEq, and_true] at h1
    obtain ⟨x0, a0, b0, _⟩ := DataW.trod_int Tryz.underlying3 t0
    obtain ⟨x1, a1, b1, _⟩ := DataW.trod_int Tryz.underlying3 t1
    obtain ⟨x2, a2, b2, _⟩ := DataW.trod_int Tryz.underlying3 t2
    obtain ⟨h10, h11, h12⟩ := h1
    subst b0 b1 b2
    simp only [DataW.lit.injEq, Lit.int.injEq, true_and] at h10 h11 h12
    rw [c3] at a0 a1 a2
    have k0 := World.var?_cell hg' hvar (k * 3)
    have k1 := World.var?_cell hg' hvar (k * 3 + 1)
    have k2 := World.var?_cell hg' hvar (k * 3 + 2)
    have g0 := congrArg (·[0]?) a0
    have g1 := congrArg (·[0]?) a1
    have g2 := congrArg (·[0]?) a2
    simp [List.getElem?_drop] at g0 g1 g2
    rw [h10, h11, h12]
    exact ⟨k0.trans g0, k1.trans g1, k2.trans g2⟩
  exact ⟨fun k hk => (key k hk).1, fun k hk => (key k hk).2.1, fun k hk => (key k hk).2.2⟩
theorem of_laid {W : World} (h0 : laidMetH Tryz.prog laid3 W) : Laid W ∧ Tab W := by
  rw [MakeChecks.laidMetH_plain _ _ _ (by kernel_rfl)] at h0
  have h : laidMet Tryz.prog [("math/bits.deBruijn32tab", Rows.laid_math_bits_deBruijn32tab), ("math/bits.deBruijn64tab", Rows.laid_math_bits_deBruijn64tab), ("jetsam/subframe.kinds", Rows.laid_jetsam_subframe_kinds)] W := h0
  exact ⟨tab_kinds (laidMet.tail (laidMet.tail h)), tab_64 (laidMet.tail h)⟩
section
variable {H : Type} {enc : TypeId × Value → H} {w : World}
def Fits (n : Int) : Prop := -9223372036854775808 ≤ n ∧ n ≤ 9223372036854775807
theorem fits_of_wf {n : Int} (h : (Lit.int .i64 n).wf = true) : Fits n := by
  have := h
  simp [Lit.wf, IntKind.min, IntKind.max, IntKind.signed, IntKind.bits] at this
  exact ⟨by omega, by omega⟩
set_option maxRecDepth 100000 in
theorem open_ints1 {c : Value} {x : DataW H × List MemPlace} {m : Nat} (h : DataW.trod enc Tryz.prog w 0 (fun _ => true) true m 22 [c] = some x) (hs : ∀ el sp, x.1 = .slice el sp → el.length + sp.length ≤ 140737488355328) :
    ∃ A n cap xs, c = .slice A n cap ∧ ISrc w (.slice A n cap) xs ∧ n ≤ cap := by
  rcases open_ints Tryz.underlying22 Tryz.underlying3 (by kernel_rfl) h with ⟨hcs, _⟩ | ⟨a, l, cp, zs, hcs, _, hl, hm, hz, hx, hcell, hwz⟩
  · injection hcs with e _
    subst e
    exact ⟨none, 0, 0, [], rfl, ⟨⟨none, 0, rfl, Nat.le_refl _, fun j hj => by simp at hj⟩, by simp, by simp⟩, Nat.le_refl _⟩
  · injection hcs with e _
    subst e
    have hz' : zs.length = cp := by simpa using hz
    have hsm := hs _ _ (by rw [hx])
    simp only [lits, List.length_map, List.length_take, List.length_drop] at hsm
    have hlen : (zs.take l).length = l := by rw [List.length_take, Nat.min_eq_left (by omega)]
    refine ⟨some a, l, cp, zs.take l, rfl, ⟨⟨some a, cp, by rw [hlen], by rw [hlen]; exact hl, fun j hj => ⟨a, rfl, ?_⟩⟩, by omega, fun y hy => fits_of_wf (hwz y (List.mem_of_mem_take hy))⟩, hl⟩
    rw [hlen] at hj
    have hjz : j < zs.length := by omega
    rw [hcell j hjz]
    simp only [List.getElem_take, List.getD_eq_getElem?_getD, List.getElem?_eq_getElem hjz, Option.getD_some]
end
end Go.Proofs.YteklfkpeaadinaaGreatDoor.S
