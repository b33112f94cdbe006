/-
  What the rows' condition on package-level variables gives; the world that start-up leaves; the arguments, opened.
-/
import Derived.Test.YteklfkpeaadinaaDoorS46
import Derived.Test.YteklfkpeaadinaaDoorTie
import Derived.Test.YteklfkpeaadinaaDoorCards
import Derived.ProofKit
import Derived.OpenShut
import Derived.LaidMore
import Derived.LaidHandle
import Derived.Lib.LaidTab
import Derived.Lib.SmallJoins
import Derived.Deep.Slices
import Derived.Deep.Strs
import Derived.Stop.LaidErr
import Derived.Stop.Joined
import Derived.SizedLaws
import Derived.SevenTiedAt
namespace Go.Proofs.YteklfkpeaadinaaDoor.S
open Go.ChangeShapes Go.WideShapes Go.ChangeAt Go.RowKit Go.Joins
open K (linV)

theorem _root_.Go.Proofs.YteklfkpeaadinaaDoor.Only.below {F : Nat → Prop} {a w : World} {B : Nat} (h : Only F a w) (hB : B ≤ a.heap.size) (hF : ∀ i, F i → B ≤ i) : Below B a w :=
  ⟨h.os, h.tape, h.output, h.size, fun i hi => h.block i (by omega) (fun e => by have := hF i e; omega)⟩
theorem Tryd.own : ownKnob Tryd.prog.godebug = none := by kernel_rfl
theorem Tryd.laidOut : laidOutB Tryd.prog = true := by kernel_rfl
/-- the rows' list -/
abbrev laid3 : List (String × DataW Unit) := Rows.subframeShortRow.laid

theorem door_met (os : Os) (args : Array Value) : laidMetH Tryd.prog laid3 ((World.doorLaid Tryd.prog 65 os).forCall (fun _ _ => 0) ⟨#[], args, []⟩).memory :=
  laidMetH_of_parts3 (fuel := 8) (laidMet_of_run' 8 (by kernel_rfl) (by kernel_rfl)) (by kernel_rfl) (by kernel_rfl)

theorem tab_64 {W : World} {rest : List (String × DataW Unit)} (h : laidMet Tryd.prog (("math/bits.deBruijn64tab", Rows.laid_math_bits_deBruijn64tab) :: rest) W) : Tab W := by
  have h' : laidMet Tryd.prog (("math/bits.deBruijn64tab", Lib.tabData .u8 (Lib.deBruijn64tab.map fun (n : Nat) => (n : Int))) :: rest) W := h
  have ht := Lib.tabIs_of_head (g := 2) (t := 105) (e := 5) (n := 64) (by kernel_rfl) (by kernel_rfl) Tryd.underlying105 Tryd.underlying5 (by kernel_rfl) (by kernel_rfl) h'
  intro k hk
  have hc := ht.cell (g := 2) (by kernel_rfl) k (by simpa [Lib.deBruijn64tab] using hk)
  rw [hc]
  have hl : k < Lib.deBruijn64tab.length := hk
  simp [hl]

theorem kinds_datum {H : Type} : (Rows.laid_jetsam_subframe_kinds : DataW H) = .agg ((List.range 4).map fun k => .agg [.lit (.int .i64 (kC k)), .lit (.int .i64 (kL k)), .lit (.int .i64 (kM k))]) := rfl
theorem tab_kinds {W : World} {rest : List (String × DataW Unit)} (h : laidMet Tryd.prog (("jetsam/subframe.kinds", Rows.laid_jetsam_subframe_kinds) :: rest) W) : Laid W := by
  obtain ⟨ps, ⟨g', t', cs, fuel, p, q, hg', ht', hvar, hd, _, _⟩, _⟩ := h
  obtain rfl := Option.some.inj ((show Tryd.prog.globalNamed "jetsam/subframe.kinds" = some 0 by kernel_rfl).symm.trans hg')
  obtain rfl := Option.some.inj ((show (Tryd.prog.globals[0]?).map (·.type) = some 74 by kernel_rfl).symm.trans ht')
  have c3 : Tryd.prog.cellsOf 3 = 1 := by kernel_rfl
  have c39 : Tryd.prog.cellsOf 73 = 3 := by kernel_rfl
  rw [kinds_datum] at hd
  obtain ⟨xs, m, _, hx, hl, hxl, hat⟩ := DataW.trod_array Tryd.underlying74 hd
  rw [c39] at hat
  simp only [Prod.mk.injEq, DataW.agg.injEq] at hx
  obtain ⟨hx, _⟩ := hx
  have key : ∀ k, k < 4 → W.cell? ⟨0, k * 3, none⟩ = some (iv (kC k)) ∧ W.cell? ⟨0, k * 3 + 1, none⟩ = some (iv (kL k)) ∧ W.cell? ⟨0, k * 3 + 2, none⟩ = some (iv (kM k)) := by
    intro k hk
    have hy := hat k hk
    have hkx : k < xs.length := by omega
    rw [List.getElem?_eq_getElem hkx] at hy
    have h1 : (xs.map (·.1))[k]? = some xs[k].1 := by simp [hkx]
    rw [← hx] at h1
    simp only [List.getElem?_map, List.getElem?_range hk, Option.map_some, Option.some.injEq] at h1
    obtain ⟨y0, y1, y2, n, e, hl3, t0, t1, t2⟩ := Deep.trod_struct3 Tryd.underlying73 hy
    rw [e] at h1
    simp only [DataW.agg.injEq, List.cons.injEq, and_true] at h1
    obtain ⟨x0, a0, b0, _⟩ := DataW.trod_int Tryd.underlying3 t0
    obtain ⟨x1, a1, b1, _⟩ := DataW.trod_int Tryd.underlying3 t1
    obtain ⟨x2, a2, b2, _⟩ := DataW.trod_int Tryd.underlying3 t2
    obtain ⟨h10, h11, h12⟩ := h1
    subst b0 b1 b2
    simp only [DataW.lit.injEq, Lit.int.injEq, true_and] at h10 h11 h12
    rw [c3] at a0 a1 a2
    have k0 := World.var?_cell hg' hvar (k * 3)
    have k1 := World.var?_cell hg' hvar (k * 3 + 1)
    have k2 := World.var?_cell hg' hvar (k * 3 + 2)
    have g0 := congrArg (·[0]?) a0
    have g1 := congrArg (·[0]?) a1
    have g2 := congrArg (·[0]?) a2
    simp [List.getElem?_drop] at g0 g1 g2
    rw [h10, h11, h12]
    exact ⟨k0.trans g0, k1.trans g1, k2.trans g2⟩
  exact ⟨fun k hk => (key k hk).1, fun k hk => (key k hk).2.1, fun k hk => (key k hk).2.2⟩

theorem of_laid {W : World} (h0 : laidMetH Tryd.prog laid3 W) : Laid W ∧ Tab W := by
  rw [MakeChecks.laidMetH_plain _ _ _ (by kernel_rfl)] at h0
  have h : laidMet Tryd.prog [("math/bits.deBruijn32tab", Rows.laid_math_bits_deBruijn32tab), ("math/bits.deBruijn64tab", Rows.laid_math_bits_deBruijn64tab), ("jetsam/subframe.kinds", Rows.laid_jetsam_subframe_kinds)] W := h0
  exact ⟨tab_kinds (laidMet.tail (laidMet.tail h)), tab_64 (laidMet.tail h)⟩

section
variable {H : Type} {enc : TypeId × Value → H} {w : World}
def Fits (n : Int) : Prop := -9223372036854775808 ≤ n ∧ n ≤ 9223372036854775807
theorem fits_of_wf {n : Int} (h : (Lit.int .i64 n).wf = true) : Fits n := by
  have := h
  simp [Lit.wf, IntKind.min, IntKind.max, IntKind.signed, IntKind.bits] at this
  exact ⟨by omega, by omega⟩
set_option maxRecDepth 100000 in
theorem weightsAll_mem {P : Program} {e : TypeId} {n : Nat} : ∀ {l : List (DataW H)} {d : DataW H}, d ∈ l → n ∈ d.weights P e → n ∈ DataW.weightsAll P e l
  | [], _, h, _ => by cases h
  | x :: l, d, h, hn => by
    unfold DataW.weightsAll
    rcases List.mem_cons.1 h with rfl | h
    · exact List.mem_append.2 (.inl hn)
    · exact List.mem_append.2 (.inr (weightsAll_mem h hn))
set_option maxRecDepth 100000 in
theorem open_ints1 {c : Value} {x : DataW H × List MemPlace} {m : Nat} (h : DataW.trod enc Tryd.prog w 0 (fun _ => true) true m 22 [c] = some x) (hs : ∀ el sp, x.1 = .slice el sp → el.length + sp.length ≤ 140737488355328) :
    ∃ A n cap xs, c = .slice A n cap ∧ ISrc w (.slice A n cap) xs ∧ n ≤ cap := by
  rcases open_ints Tryd.underlying22 Tryd.underlying3 (by kernel_rfl) h with ⟨hcs, _⟩ | ⟨a, l, cp, zs, hcs, _, hl, hm, hz, hx, hcell, hwz⟩
  · injection hcs with e _
    subst e
    exact ⟨none, 0, 0, [], rfl, ⟨⟨none, 0, rfl, Nat.le_refl _, fun j hj => by simp at hj⟩, by simp, by simp⟩, Nat.le_refl _⟩
  · injection hcs with e _
    subst e
    have hz' : zs.length = cp := by simpa using hz
    have hsm := hs _ _ (by rw [hx])
    simp only [lits, List.length_map, List.length_take, List.length_drop] at hsm
    have hlen : (zs.take l).length = l := by rw [List.length_take, Nat.min_eq_left (by omega)]
    refine ⟨some a, l, cp, zs.take l, rfl, ⟨⟨some a, cp, by rw [hlen], by rw [hlen]; exact hl, fun j hj => ⟨a, rfl, ?_⟩⟩, by omega, fun y hy => fits_of_wf (hwz y (List.mem_of_mem_take hy))⟩, hl⟩
    rw [hlen] at hj
    have hjz : j < zs.length := by omega
    rw [hcell j hjz]
    simp only [List.getElem_take, List.getD_eq_getElem?_getD, List.getElem?_eq_getElem hjz, Option.getD_some]
set_option maxRecDepth 100000 in
theorem open_numbers {ts : List TypeId} {ds : List (DataW H)} (hsz : (DataW.weightsEach Tryd.prog ts ds).all (· ≤ reachBytes) = true) {j : Nat} {A : Option Addr} {len cap : Nat} {d : DataW H} {p : List MemPlace} (ht : ts[j]? = some 22) (hd : ds[j]? = some d)
    (h : DataW.Trod enc Tryd.prog w 0 (fun _ => true) true 22 (.slice A len cap) d p) : ∃ xs, ISrc w (.slice A len cap) xs := by
  obtain ⟨fuel, hf⟩ := h
  have hb8 : Tryd.prog.bytesOf 3 = 8 := by kernel_rfl
  obtain ⟨A1, n1, k1, l1, e1, s1, q1⟩ := open_ints1 (c := .slice A len cap) (x := (d, p)) (m := fuel) (by simpa [Value.cells] using hf) (fun el sp e => by
    have e' : d = .slice el sp := e
    have h1 : (el.length + sp.length) * Tryd.prog.bytesOf 3 ∈ d.weights Tryd.prog 22 := by rw [e']; simp [DataW.weights, Tryd.underlying22]
    have h3 := List.all_eq_true.1 hsz _ (DataW.weights_mem_each ht hd _ h1)
    rw [hb8] at h3
    simp at h3
    unfold reachBytes at h3
    omega)
  injection e1 with e2 e3 e4
  subst e2 e3 e4
  exact ⟨l1, s1⟩
end

set_option maxRecDepth 100000 in
theorem subframeShort_lifted (os : Os) (started : os.Started) (H : Type) (enc : TypeId × Value → H) :
    ReturnsInHanded {} Tryd.checked os 3 .any (fun w args => (Rows.subframeShortSpec.pre enc Tryd.prog Tryd.f3 [] false w args ∧ laidMetH Tryd.prog laid3 w) ∧ sizedMet enc Tryd.prog Tryd.f3 (OpenSpec.ofChange Rows.subframeShortSpec) false w args)
      (Rows.subframeShortSpec.post enc Tryd.prog Tryd.f3 false true false false) := by
  refine returnsInHanded_of_change_and (C := Tryd.checked) (X := fun w _ => laidMetH Tryd.prog laid3 w) (fun _ _ _ hh h => h.of_heap hh) Tryd.own started (by kernel_rfl) Tryd.func3
    (ChangeSpec.witness_shaped (enc := enc) (C := Tryd.checked) (os := os) (X := fun w _ => laidMetH Tryd.prog laid3 w) false (World.doorLaid Tryd.prog 65 os) #[.int .i64 0, .slice none 0 0] 8 rfl (World.shaped_of_RefB (by kernel_rfl) (by kernel_rfl)) (by kernel_rfl) (by kernel_rfl) (by kernel_rfl) (door_met os _)) ?_
  intro W base args ds gs before hval0 hW _ hsz hL _
  have hval : ∀ (j : Nat) t v, Tryd.f3.params[j]? = some t → args[j]? = some v → Value.okWide Tryd.prog W .any base t v := hval0
  have hW' := hW
  obtain ⟨p, q, hA0, hV, rfl, hfz, hnd⟩ := hW
  have hA : DataW.TrodAll enc Tryd.prog W 0 (fun _ => true) true Tryd.f3.params.toList args.toList ds p := hA0
  rw [Tryd.params3] at hA hval
  obtain ⟨v0, vs0, d0, ds0, p0, q0, hargs, rfl, rfl, h0, r0⟩ := trodAll_cons hA
  obtain ⟨v1, vs1, d1, ds1, p1, q1, rfl, rfl, rfl, h1, r1⟩ := trodAll_cons r0
  obtain ⟨rfl, rfl, rfl⟩ := trodAll_nil r1
  obtain rfl : args = #[v0, v1] := by cases args; simp_all
  obtain ⟨rfl, rfl⟩ := trodVars_none hV
  have hsz' : (DataW.weightsEach Tryd.prog (Tryd.f3.params.toList ++ Rows.subframeShortSpec.plain.varTypes Tryd.prog) ([d0, d1] ++ [])).all (· ≤ reachBytes) = true := hsz
  rw [Tryd.params3] at hsz'
  have k0 := h0
  have lt0 : ∀ x ∈ p0, x.block < W.heap.size := by obtain ⟨m, hm⟩ := k0; exact DataW.trod_lt m _ _ _ hm
  obtain ⟨x0, rfl, rfl, rfl, wx0⟩ := open_int Tryd.underlying3 (hval 0 3 v0 rfl rfl) h0
  have k1 := h1
  have lt1 : ∀ x ∈ p1, x.block < W.heap.size := by obtain ⟨m, hm⟩ := k1; exact DataW.trod_lt m _ _ _ hm
  obtain ⟨a1, len1, cap1, rfl⟩ := okWide_slice Tryd.underlying22 (hval 1 22 v1 rfl rfl)
  obtain ⟨xs1, sx1⟩ := open_numbers hsz' (j := 1) rfl rfl h1
  clear hA0 hval0
  obtain ⟨HL, HT⟩ := of_laid hL
  refine (subframeShort_walk HL HT x0 a1 len1 cap1 xs1 sx1).mono fun e W' ⟨he, ho⟩ => ?_
  subst he
  have bel : Below W.heap.size W W' := ho.below (Nat.le_refl _) (fun _ e => e.elim)
  exact ⟨_, rfl, _, _, _, [], _, [], hW', trodAll_mk1 (shut_bool Tryd.underlying4 _), (trodAll_cons_mk (Below.trod Tryd.laidOut (by kernel_rfl) (of_decide_eq_true (by kernel_rfl)) k0 bel lt0) (trodAll_cons_mk (Below.trod Tryd.laidOut (by kernel_rfl) (of_decide_eq_true (by kernel_rfl)) k1 bel lt1) trodAll_mk0)), rfl, bel.frame _, fun h => by cases h⟩

theorem subframeShort_holds : Rows.SubframeShortSaid :=
  OpenClaim.holds_of_wide 3 Tryd.f3 rfl rfl rfl rfl rfl rfl rfl ⟨rfl, rfl, rfl, rfl, rfl⟩ rfl rfl rfl rfl rfl (by kernel_rfl) Tryd.func3 (by kernel_rfl)
    (of_decide_eq_true (by kernel_rfl)) (by unfold Func.isWrapper; first | (rw [if_pos (by decide +kernel)]; kernel_rfl) | (rw [if_neg (by decide +kernel)]; exact ⟨rfl, rfl⟩))
    (fun os started H enc _ => subframeShort_lifted os started H enc)

theorem subframeShort_card : Rows.SubframeShortCardSaid :=
  Claim7.holds_tied_plain_at .later [] [.data, .data, .data] true Rows.subframeShortCard.stood.harness false
    subframeShort_holds (fun _ h => by cases h) (by kernel_rfl) (fun _ h => by cases h) subframeShort_row_tie rfl ⟨rfl, rfl⟩ (by kernel_rfl) rfl
    (fun f fn hf hfn => by
      obtain rfl : f = 3 := Option.some.inj ((show Tryd.prog.funcNamed "jetsam/jetsamlaw07.SubframeShort" = some 3 by kernel_rfl).symm.trans hf) |>.symm
      obtain rfl : fn = Tryd.f3 := (Option.some.inj (Tryd.func3.symm.trans hfn)).symm
      exact ⟨by kernel_rfl, fun j t ht => by
        rw [Tryd.params3] at ht
        have hm : t ∈ [3, 22] := by simpa using Array.mem_of_getElem? ht
        have hall : ([3, 22].all fun u => !Tryd.prog.wantsStandIn u) = true := by kernel_rfl
        exact (show Tryd.prog.wantsStandIn t = false by simpa using List.all_eq_true.1 hall t hm)⟩)
    (by kernel_rfl)
end Go.Proofs.YteklfkpeaadinaaDoor.S
