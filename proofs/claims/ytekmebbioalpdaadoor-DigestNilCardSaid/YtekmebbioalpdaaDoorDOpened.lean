/-
  What the rows' condition on the package-level variables gives; the world that start-up leaves; the arguments, opened.
-/
import Derived.Test.YtekmebbioalpdaaDoorDAwake
import Derived.Test.YtekmebbioalpdaaDoorTie
import Derived.Test.YtekmebbioalpdaaDoorCards
import Derived.ProofKit
import Derived.OpenShut
import Derived.LaidMore
import Derived.LaidHandle
import Derived.Lib.LaidTab
import Derived.Lib.SmallJoins
import Derived.Deep.Slices
import Derived.Deep.Strs
import Derived.Deep.Matrix
import Derived.Stop.LaidErr
import Derived.Stop.Joined
import Derived.SizedLaws
import Derived.SevenTiedAt
namespace Go.Proofs.YtekmebbioalpdaaDoor
open Go.ChangeShapes Go.WideShapes Go.ChangeAt Go.RowKit Go.Joins

theorem Tryd.own : ownKnob Tryd.prog.godebug = none := by kernel_rfl
theorem Tryd.laidOut : laidOutB Tryd.prog = true := by kernel_rfl
/-- the rows' list -/
abbrev laid1 : List (String × DataW Unit) := Rows.digestTellsRow.laid

theorem door_met (os : Os) (args : Array Value) : laidMetH Tryd.prog laid1 ((World.doorLaid Tryd.prog 23 os).forCall (fun _ _ => 0) ⟨#[], args, []⟩).memory :=
  laidMetH_of_parts3 (fuel := 8) (laidMet_of_run' 8 (by kernel_rfl) (by kernel_rfl)) (by kernel_rfl) (by kernel_rfl)

theorem tab_addends {W : World} {rest : List (String × DataW Unit)} (h : laidMet Tryd.prog (("jetsam/digest.addends", Rows.laid_jetsam_digest_addends) :: rest) W) : W.rangeAt 0 0 (KS.map wv) := by
  have h' : laidMet Tryd.prog (("jetsam/digest.addends", Lib.tabData .u32 (KS.map fun (n : Nat) => (n : Int))) :: rest) W := h
  have ht := Lib.tabIs_of_head (g := 0) (t := 70) (e := 47) (n := 64) (by kernel_rfl) (by kernel_rfl) Tryd.underlying70 Tryd.underlying47 (by kernel_rfl) (by kernel_rfl) h'
  intro j v hv
  have hj : j < 64 := (List.getElem?_eq_some_iff.1 hv).1
  have hc := ht.cell (g := 0) (by kernel_rfl) j (by simpa [KS] using hj)
  rw [KS_at j hj] at hv
  injection hv with hv
  subst hv
  rw [Nat.zero_add, hc]
  have hl : j < KS.length := hj
  simp [hl, wv]

theorem turns_datum {H : Type} : (Rows.laid_jetsam_digest_turns : DataW H) = .agg ((List.range 4).map fun k => .agg ((List.range 4).map fun m => .lit (.int .i64 (TS.getD (k * 4 + m) 0 : Nat)))) := rfl
theorem tab_turns {W : World} {rest : List (String × DataW Unit)} (h : laidMet Tryd.prog (("jetsam/digest.turns", Rows.laid_jetsam_digest_turns) :: rest) W) : ∀ j, j < 16 → W.cell? ⟨1, j, none⟩ = some (iv (TS.getD j 0 : Nat)) := by
  obtain ⟨ps, ⟨g', t', cs, fuel, p, q, hg', ht', hvar, hd, _, _⟩, _⟩ := h
  obtain rfl := Option.some.inj ((show Tryd.prog.globalNamed "jetsam/digest.turns" = some 1 by kernel_rfl).symm.trans hg')
  obtain rfl := Option.some.inj ((show (Tryd.prog.globals[1]?).map (·.type) = some 74 by kernel_rfl).symm.trans ht')
  have c3 : Tryd.prog.cellsOf 3 = 1 := by kernel_rfl
  have c4 : Tryd.prog.cellsOf 73 = 4 := by kernel_rfl
  rw [turns_datum] at hd
  obtain ⟨xs, m, _, hx, hl, hxl, hat⟩ := DataW.trod_array Tryd.underlying74 hd
  rw [c4] at hat
  simp only [Prod.mk.injEq, DataW.agg.injEq] at hx
  obtain ⟨hx, _⟩ := hx
  have key : ∀ k, k < 4 → ∀ i, i < 4 → W.cell? ⟨1, k * 4 + i, none⟩ = some (iv (TS.getD (k * 4 + i) 0 : Nat)) := by
    intro k hk i hi
    have hy := hat k hk
    have hkx : k < xs.length := by omega
    rw [List.getElem?_eq_getElem hkx] at hy
    have h1 : (xs.map (·.1))[k]? = some xs[k].1 := by simp [hkx]
    rw [← hx] at h1
    simp only [List.getElem?_map, List.getElem?_range hk, Option.map_some, Option.some.injEq] at h1
    obtain ⟨ys, m2, _, hy2, hl2, hyl, hat2⟩ := DataW.trod_array Tryd.underlying73 hy
    rw [c3] at hat2
    have hy3 : xs[k].1 = .agg (ys.map (·.1)) := by rw [hy2]
    rw [hy3] at h1
    simp only [DataW.agg.injEq] at h1
    have hz := hat2 i hi
    have hiy : i < ys.length := by omega
    rw [List.getElem?_eq_getElem hiy] at hz
    have h2 : (ys.map (·.1))[i]? = some ys[i].1 := by simp [hiy]
    rw [← h1] at h2
    simp only [List.getElem?_map, List.getElem?_range hi, Option.map_some, Option.some.injEq] at h2
    obtain ⟨x0, a0, b0, _⟩ := DataW.trod_int Tryd.underlying3 hz
    have b1 : ys[i].1 = .lit (.int .i64 x0) := by rw [b0]
    rw [b1] at h2
    simp only [DataW.lit.injEq, Lit.int.injEq, true_and] at h2
    have k0 := World.var?_cell hg' hvar (k * 4 + i)
    have g0 := congrArg (·[0]?) a0
    simp [List.getElem?_drop, hi] at g0
    rw [h2]
    exact k0.trans g0
  intro j hj
  have := key (j / 4) (by omega) (j % 4) (by omega)
  rwa [show j / 4 * 4 + j % 4 = j from by omega] at this

theorem of_laid {W : World} (h0 : laidMetH Tryd.prog laid1 W) : Laid W := by
  rw [MakeChecks.laidMetH_plain _ _ _ (by kernel_rfl)] at h0
  have h : laidMet Tryd.prog [("jetsam/digest.addends", Rows.laid_jetsam_digest_addends), ("jetsam/digest.turns", Rows.laid_jetsam_digest_turns)] W := h0
  exact ⟨tab_addends h, tab_turns (laidMet.tail h)⟩

/-- numbers of Go's int -/
def Fits (n : Int) : Prop := -9223372036854775808 ≤ n ∧ n ≤ 9223372036854775807
theorem fits_of_wf {n : Int} (h : (Lit.int .i64 n).wf = true) : Fits n := by
  have := h
  simp [Lit.wf, IntKind.min, IntKind.max, IntKind.signed, IntKind.bits] at this
  exact ⟨by omega, by omega⟩
section
variable {H : Type} {enc : TypeId × Value → H} {w : World}
theorem sized_bytes {ts : List TypeId} {ds : List (DataW H)} (h : (DataW.weightsEach Tryd.prog ts ds).all (· ≤ reachBytes) = true) {j : Nat} {d : DataW H} (ht : ts[j]? = some 22) (hd : ds[j]? = some d) :
    ∀ elems spare, d = .slice elems spare → elems.length + spare.length ≤ 140737488355328 := by
  rintro elems spare rfl
  have h8 := sized_slice h ht hd Tryd.underlying22
  have hby : Tryd.prog.bytesOf 5 = 1 := by kernel_rfl
  rw [hby] at h8
  unfold reachBytes at h8
  omega
/-- a slice of bytes that came in -/
theorem open_src {A : Option Addr} {len cap : Nat} {d : DataW H} {p : List MemPlace} (h : DataW.Trod enc Tryd.prog w 0 (fun _ => true) true 22 (.slice A len cap) d p)
    (hs : ∀ elems spare, d = .slice elems spare → elems.length + spare.length ≤ 140737488355328) :
    ∃ bs : List Nat, Src w (.slice A len cap) bs ∧ len ≤ cap ∧ cap ≤ 140737488355328 ∧ (A = none → cap = 0) := by
  obtain ⟨fuel, hf⟩ := h
  rcases open_ints Tryd.underlying22 Tryd.underlying5 (by kernel_rfl) hf with ⟨hcs, _⟩ | ⟨x, l, c, zs, hcs, _, hl, hm, hz, hx, hcell, hwz⟩
  · simp [Value.cells] at hcs
    obtain ⟨rfl, rfl, rfl⟩ := hcs
    exact ⟨[], Src.nil w, Nat.le_refl _, by omega, fun _ => rfl⟩
  · simp [Value.cells] at hcs
    obtain ⟨rfl, rfl, rfl⟩ := hcs
    have hz' : zs.length = cap := by simpa using hz
    simp only [Prod.mk.injEq] at hx
    have hsm := hs _ _ hx.1
    simp only [lits, List.length_map, List.length_take, List.length_drop] at hsm
    have hb : ∀ z ∈ zs, 0 ≤ z ∧ z ≤ 255 := fun z hzm => by
      have := hwz z hzm
      simpa [Lit.wf, IntKind.min, IntKind.max, IntKind.signed, IntKind.bits] using this
    have hlen : ((zs.take len).map Int.toNat).length = len := by rw [List.length_map, List.length_take, Nat.min_eq_left (by omega)]
    refine ⟨(zs.take len).map Int.toNat, ⟨⟨some x, cap, by rw [hlen], fun j hj => ⟨x, rfl, ?_⟩⟩, by omega, fun y hy => ?_⟩, hl, by omega, fun e => by cases e⟩
    · rw [hlen] at hj
      have hjz : j < zs.length := by omega
      have h2 := hb zs[j] (List.getElem_mem hjz)
      rw [hcell j hjz]
      simp only [List.getElem_map, List.getElem_take, byt, List.getD_eq_getElem?_getD, List.getElem?_eq_getElem hjz, Option.getD_some]
      rw [Int.toNat_of_nonneg h2.1]
    · obtain ⟨z, hzm, rfl⟩ := List.mem_map.1 hy
      have := hb z (List.mem_of_mem_take hzm)
      omega
end
end Go.Proofs.YtekmebbioalpdaaDoor
