/-
  What the rows' condition on package-level variables gives; the world that start-up leaves; the arguments, opened.
-/
import Derived.Test.YteklfkpeaadinaaGreatDoorPAS27
import Derived.Test.YteklfkpeaadinaaGreatDoorTie
import Derived.Test.YteklfkpeaadinaaGreatDoorCards
import Derived.ProofKit
import Derived.OpenShut
import Derived.LaidMore
import Derived.LaidHandle
import Derived.Lib.LaidTab
import Derived.Lib.SmallJoins
import Derived.Deep.Slices
import Derived.Deep.Strs
import Derived.Stop.LaidErr
import Derived.Stop.Joined
import Derived.SizedLaws
import Derived.SevenTiedAt
namespace Go.Proofs.YteklfkpeaadinaaGreatDoor.S
open Go.ChangeShapes Go.WideShapes Go.ChangeAt Go.RowKit Go.Joins
open K (linV)

theorem Tryz.own : ownKnob Tryz.prog.godebug = none := by kernel_rfl
theorem Tryz.laidOut : laidOutB Tryz.prog = true := by kernel_rfl
/-- the rows' list -/
abbrev laid3 : List (String × DataW Unit) := Rows.subframeBackRow.laid
theorem door_met (os : Os) (args : Array Value) : laidMetH Tryz.prog laid3 ((World.doorLaid Tryz.prog 65 os).forCall (fun _ _ => 0) ⟨#[], args, []⟩).memory :=
  laidMetH_of_parts3 (fuel := 8) (laidMet_of_run' 8 (by kernel_rfl) (by kernel_rfl)) (by kernel_rfl) (by kernel_rfl)
theorem tab_64 {W : World} {rest : List (String × DataW Unit)} (h : laidMet Tryz.prog (("math/bits.deBruijn64tab", Rows.laid_math_bits_deBruijn64tab) :: rest) W) : Tab W := by
  have h' : laidMet Tryz.prog (("math/bits.deBruijn64tab", Lib.tabData .u8 (Lib.deBruijn64tab.map fun (n : Nat) => (n : Int))) :: rest) W := h
  have ht := Lib.tabIs_of_head (g := 2) (t := 174) (e := 5) (n := 64) (by kernel_rfl) (by kernel_rfl) Tryz.underlying174 Tryz.underlying5 (by kernel_rfl) (by kernel_rfl) h'
  intro k hk
  have hc := ht.cell (g := 2) (by kernel_rfl) k (by simpa [Lib.deBruijn64tab] using hk)
  rw [hc]
  have hl : k < Lib.deBruijn64tab.length := hk
  simp [hl]
theorem kinds_datum {H : Type} : (Rows.laid_jetsam_subframe_kinds : DataW H) = .agg ((List.range 4).map fun k => .agg [.lit (.int .i64 (kC k)), .lit (.int .i64 (kL k)), .lit (.int .i64 (kM k))]) := rfl
theorem tab_kinds {W : World} {rest : List (String × DataW Unit)} (h : laidMet Tryz.prog (("jetsam/subframe.kinds", Rows.laid_jetsam_subframe_kinds) :: rest) W) : Laid W := by
  obtain ⟨ps, ⟨g', t', cs, fuel, p, q, hg', ht', hvar, hd, _, _⟩, _⟩ := h
  obtain rfl := Option.some.inj ((show Tryz.prog.globalNamed "jetsam/subframe.kinds" = some 0 by kernel_rfl).symm.trans hg')
  obtain rfl := Option.some.inj ((show (Tryz.prog.globals[0]?).map (·.type) = some 115 by kernel_rfl).symm.trans ht')
  have c3 : Tryz.prog.cellsOf 3 = 1 := by kernel_rfl
  have c39 : Tryz.prog.cellsOf 114 = 3 := by kernel_rfl
  rw [kinds_datum] at hd
  obtain ⟨xs, m, _, hx, hl, hxl, hat⟩ := DataW.trod_array Tryz.underlying115 hd
  rw [c39] at hat
  simp only [Prod.mk.injEq, DataW.agg.injEq] at hx
  obtain ⟨hx, _⟩ := hx
  have key : ∀ k, k < 4 → W.cell? ⟨0, k * 3, none⟩ = some (iv (kC k)) ∧ W.cell? ⟨0, k * 3 + 1, none⟩ = some (iv (kL k)) ∧ W.cell? ⟨0, k * 3 + 2, none⟩ = some (iv (kM k)) := by
    intro k hk
    have hy := hat k hk
    have hkx : k < xs.length := by omega
    rw [List.getElem?_eq_getElem hkx] at hy
    have h1 : (xs.map (·.1))[k]? = some xs[k].1 := by simp [hkx]
    rw [← hx] at h1
    simp only [List.getElem?_map, List.getElem?_range hk, Option.map_some, Option.some.injEq] at h1
    obtain ⟨y0, y1, y2, n, e, hl3, t0, t1, t2⟩ := Deep.trod_struct3 Tryz.underlying114 hy
    rw [e] at h1
    simp only [DataW.agg.injEq, List.cons.injEq, and_true] at h1
    obtain ⟨x0, a0, b0, _⟩ := DataW.trod_int Tryz.underlying3 t0
    obtain ⟨x1, a1, b1, _⟩ := DataW.trod_int Tryz.underlying3 t1
    obtain ⟨x2, a2, b2, _⟩ := DataW.trod_int Tryz.underlying3 t2
    obtain ⟨h10, h11, h12⟩ := h1
    subst b0 b1 b2
    simp only [DataW.lit.injEq, Lit.int.injEq, true_and] at h10 h11 h12
    rw [c3] at a0 a1 a2
    have k0 := World.var?_cell hg' hvar (k * 3)
    have k1 := World.var?_cell hg' hvar (k * 3 + 1)
    have k2 := World.var?_cell hg' hvar (k * 3 + 2)
    have g0 := congrArg (·[0]?) a0
    have g1 := congrArg (·[0]?) a1
    have g2 := congrArg (·[0]?) a2
    simp [List.getElem?_drop] at g0 g1 g2
    rw [h10, h11, h12]
    exact ⟨k0.trans g0, k1.trans g1, k2.trans g2⟩
  exact ⟨fun k hk => (key k hk).1, fun k hk => (key k hk).2.1, fun k hk => (key k hk).2.2⟩
theorem of_laid {W : World} (h0 : laidMetH Tryz.prog laid3 W) : Laid W ∧ Tab W := by
  rw [MakeChecks.laidMetH_plain _ _ _ (by kernel_rfl)] at h0
  have h : laidMet Tryz.prog [("math/bits.deBruijn32tab", Rows.laid_math_bits_deBruijn32tab), ("math/bits.deBruijn64tab", Rows.laid_math_bits_deBruijn64tab), ("jetsam/subframe.kinds", Rows.laid_jetsam_subframe_kinds)] W := h0
  exact ⟨tab_kinds (laidMet.tail (laidMet.tail h)), tab_64 (laidMet.tail h)⟩
section
variable {H : Type} {enc : TypeId × Value → H} {w : World}
def Fits (n : Int) : Prop := -9223372036854775808 ≤ n ∧ n ≤ 9223372036854775807
theorem fits_of_wf {n : Int} (h : (Lit.int .i64 n).wf = true) : Fits n := by
  have := h
  simp [Lit.wf, IntKind.min, IntKind.max, IntKind.signed, IntKind.bits] at this
  exact ⟨by omega, by omega⟩
set_option maxRecDepth 100000 in
theorem weightsAll_mem {P : Program} {e : TypeId} {n : Nat} : ∀ {l : List (DataW H)} {d : DataW H}, d ∈ l → n ∈ d.weights P e → n ∈ DataW.weightsAll P e l
  | [], _, h, _ => by cases h
  | x :: l, d, h, hn => by
    unfold DataW.weightsAll
    rcases List.mem_cons.1 h with rfl | h
    · exact List.mem_append.2 (.inl hn)
    · exact List.mem_append.2 (.inr (weightsAll_mem h hn))
set_option maxRecDepth 100000 in
theorem open_ints1 {c : Value} {x : DataW H × List MemPlace} {m : Nat} (h : DataW.trod enc Tryz.prog w 0 (fun _ => true) true m 22 [c] = some x) (hs : ∀ el sp, x.1 = .slice el sp → el.length + sp.length ≤ 140737488355328) :
    ∃ A n cap xs, c = .slice A n cap ∧ ISrc w (.slice A n cap) xs ∧ n ≤ cap := by
  rcases open_ints Tryz.underlying22 Tryz.underlying3 (by kernel_rfl) h with ⟨hcs, _⟩ | ⟨a, l, cp, zs, hcs, _, hl, hm, hz, hx, hcell, hwz⟩
  · injection hcs with e _
    subst e
    exact ⟨none, 0, 0, [], rfl, ⟨⟨none, 0, rfl, Nat.le_refl _, fun j hj => by simp at hj⟩, by simp, by simp⟩, Nat.le_refl _⟩
  · injection hcs with e _
    subst e
    have hz' : zs.length = cp := by simpa using hz
    have hsm := hs _ _ (by rw [hx])
    simp only [lits, List.length_map, List.length_take, List.length_drop] at hsm
    have hlen : (zs.take l).length = l := by rw [List.length_take, Nat.min_eq_left (by omega)]
    refine ⟨some a, l, cp, zs.take l, rfl, ⟨⟨some a, cp, by rw [hlen], by rw [hlen]; exact hl, fun j hj => ⟨a, rfl, ?_⟩⟩, by omega, fun y hy => fits_of_wf (hwz y (List.mem_of_mem_take hy))⟩, hl⟩
    rw [hlen] at hj
    have hjz : j < zs.length := by omega
    rw [hcell j hjz]
    simp only [List.getElem_take, List.getD_eq_getElem?_getD, List.getElem?_eq_getElem hjz, Option.getD_some]
set_option maxRecDepth 100000 in
theorem open_twos {ts : List TypeId} {ds : List (DataW H)} (hsz : (DataW.weightsEach Tryz.prog ts ds).all (· ≤ reachBytes) = true) {j : Nat} {b0 : Nat} {v : Value} {d : DataW H} {p : List MemPlace} (ht : ts[j]? = some 29) (hd : ds[j]? = some d)
    (hv : Value.okWide Tryz.prog w .any b0 29 v) (h : DataW.Trod enc Tryz.prog w 0 (fun _ => true) true 29 v d p) :
    ∃ A1 n1 c1 l A2 n2 c2 r, v = .agg #[.slice A1 n1 c1, .slice A2 n2 c2] ∧ ISrc w (.slice A1 n1 c1) l ∧ n1 ≤ c1 ∧ ISrc w (.slice A2 n2 c2) r ∧ n2 ≤ c2 := by
  have hu : Tryz.prog.underlying 29 = some (.array 2 22) := by kernel_rfl
  have hc1 : Tryz.prog.cellsOf 22 = 1 := by kernel_rfl
  have hc2 : Tryz.prog.cellsOf 29 = 2 := by kernel_rfl
  have hb8 : Tryz.prog.bytesOf 3 = 8 := by kernel_rfl
  simp only [Value.okWide, hu] at hv
  obtain ⟨cs, rfl, hsz2, _⟩ := hv
  obtain ⟨l⟩ := cs
  obtain ⟨fuel, hf⟩ := h
  obtain ⟨xs, m, _, hx, hl, hn, hi⟩ := DataW.trod_array hu hf
  rw [hc1] at hi
  simp only [Prod.mk.injEq] at hx
  rw [hx.1] at hd
  have key : ∀ y ∈ xs, ∀ el sp, y.1 = .slice el sp → el.length + sp.length ≤ 140737488355328 := by
    intro y hy el sp e
    have h1 : (el.length + sp.length) * Tryz.prog.bytesOf 3 ∈ (y.1).weights Tryz.prog 22 := by rw [e]; simp [DataW.weights, Tryz.underlying22]
    have h2 := weightsAll_mem (P := Tryz.prog) (e := 22) (List.mem_map.2 ⟨y, hy, rfl⟩ : y.1 ∈ xs.map (·.1)) h1
    have h3 := List.all_eq_true.1 hsz _ (DataW.weights_mem_each ht hd _ (by simp only [DataW.weights, hu]; exact h2))
    rw [hb8] at h3
    simp at h3
    unfold reachBytes at h3
    omega
  match l, hsz2.trans hc2 with
  | [c0, c1], _ =>
    match xs, hn with
    | [y0, y1], _ =>
      have h0 := hi 0 (by omega)
      have h1 := hi 1 (by omega)
      obtain ⟨A1, n1, k1, l1, e1, s1, q1⟩ := open_ints1 (x := y0) (by simpa [Value.cells] using h0) (key y0 (by simp))
      obtain ⟨A2, n2, k2, l2, e2, s2, q2⟩ := open_ints1 (x := y1) (by simpa [Value.cells] using h1) (key y1 (by simp))
      subst e1 e2
      exact ⟨A1, n1, k1, l1, A2, n2, k2, l2, rfl, s1, q1, s2, q2⟩
set_option maxRecDepth 100000 in
set_option maxHeartbeats 1000000 in
theorem open_plan7 {ts : List TypeId} {ds : List (DataW H)} (hsz : (DataW.weightsEach Tryz.prog ts ds).all (· ≤ reachBytes) = true) {j : Nat} {b0 : Nat} {v : Value} {d : DataW H} {p : List MemPlace} (ht : ts[j]? = some 28) (hd : ds[j]? = some d)
    (hv : Value.okWide Tryz.prog w .any b0 28 v) (h : DataW.Trod enc Tryz.prog w 0 (fun _ => true) true 28 v d p) :
    ∃ (k o wd lp ls : Int) (Ac : Option Addr) (nc cc : Nat) (cs : List Int) (m ro : Int) (Ap : Option Addr) (np cp : Nat) (ps : List Int) (Ab : Option Addr) (nb cb : Nat) (bs : List Int), v = spV k o wd lp ls (.slice Ac nc cc) m ro (.slice Ap np cp) (.slice Ab nb cb) ∧
      ISrc w (.slice Ac nc cc) cs ∧ ISrc w (.slice Ap np cp) ps ∧ ISrc w (.slice Ab nb cb) bs := by
  have hc1 : Tryz.prog.cellsOf 22 = 1 := by kernel_rfl
  have hc0 : Tryz.prog.cellsOf 3 = 1 := by kernel_rfl
  have hc3 : Tryz.prog.cellsOf 24 = 3 := by kernel_rfl
  have hc4 : Tryz.prog.cellsOf 26 = 4 := by kernel_rfl
  have hc10 : Tryz.prog.cellsOf 28 = 10 := by kernel_rfl
  have hb8 : Tryz.prog.bytesOf 3 = 8 := by kernel_rfl
  obtain ⟨cs, rfl, hs10⟩ := okWide_struct Tryz.underlying28 hv
  obtain ⟨fuel, hf⟩ := h
  obtain ⟨xs, nn, _, hx, hl, hlen, hft⟩ := DataW.trod_struct Tryz.underlying28 hf
  obtain ⟨l⟩ := cs
  match l, hs10.trans hc10 with
  | [x0, x1, x2, x3, x4, x5, x6, x7, x8, x9], _ =>
    match xs, hlen with
    | [y0, y1, y2, y3, y4], _ =>
      have t0 := hft 0 _ rfl
      have t1 := hft 1 _ rfl
      have t2 := hft 2 _ rfl
      have t3 := hft 3 _ rfl
      have t4 := hft 4 _ rfl
      simp only [Value.cells, hc1, hc0, hc3, hc4, List.drop_zero, List.drop_succ_cons, List.take_succ_cons, List.take_zero, List.getElem?_cons_zero, List.getElem?_cons_succ] at t0 t1 t2 t3 t4
      obtain ⟨u0, u1, u2, n3, hx3, _, s0, s1, s2⟩ := Deep.trod_struct3 Tryz.underlying24 t3
      obtain ⟨v0, v1, v2, v3, n4, hx4, _, r0, r1, r2, r3⟩ := trod_struct4 Tryz.underlying26 t4
      simp only [hc1, hc0, List.drop_zero, List.drop_succ_cons, List.take_succ_cons, List.take_zero] at s0 s1 s2 r0 r1 r2 r3
      simp only [List.map_cons, List.map_nil, Prod.mk.injEq] at hx
      rw [hx.1] at hd
      have e3 : y3.1 = .agg [u0.1, u1.1, u2.1] := by rw [hx3]
      have e4 : y4.1 = .agg [v0.1, v1.1, v2.1, v3.1] := by rw [hx4]
      have key3 : ∀ el sp, u2.1 = .slice el sp → el.length + sp.length ≤ 140737488355328 := by
        intro el sp e
        have h1 : (el.length + sp.length) * Tryz.prog.bytesOf 3 ∈ u2.1.weights Tryz.prog 22 := by rw [e]; simp [DataW.weights, Tryz.underlying22]
        have h2 : (el.length + sp.length) * Tryz.prog.bytesOf 3 ∈ y3.1.weights Tryz.prog 24 := by
          rw [e3]
          simp only [DataW.weights, Tryz.underlying24]
          exact DataW.weights_mem_each (j := 2) rfl rfl _ h1
        have h3 := List.all_eq_true.1 hsz _ (DataW.weights_mem_each ht hd _ (by
          simp only [DataW.weights, Tryz.underlying28]
          exact DataW.weights_mem_each (j := 3) rfl rfl _ h2))
        rw [hb8] at h3
        simp at h3
        unfold reachBytes at h3
        omega
      have key4 : ∀ (q : Nat) (y : DataW H), [v0.1, v1.1, v2.1, v3.1][q]? = some y → (q = 2 ∨ q = 3) → ∀ el sp, y = .slice el sp → el.length + sp.length ≤ 140737488355328 := by
        intro q y hq h23 el sp e
        have h1 : (el.length + sp.length) * Tryz.prog.bytesOf 3 ∈ y.weights Tryz.prog 22 := by rw [e]; simp [DataW.weights, Tryz.underlying22]
        have h2 : (el.length + sp.length) * Tryz.prog.bytesOf 3 ∈ y4.1.weights Tryz.prog 26 := by
          rw [e4]
          simp only [DataW.weights, Tryz.underlying26]
          exact DataW.weights_mem_each (j := q) (by rcases h23 with rfl | rfl <;> rfl) hq _ h1
        have h3 := List.all_eq_true.1 hsz _ (DataW.weights_mem_each ht hd _ (by
          simp only [DataW.weights, Tryz.underlying28]
          exact DataW.weights_mem_each (j := 4) rfl rfl _ h2))
        rw [hb8] at h3
        simp at h3
        unfold reachBytes at h3
        omega
      obtain ⟨Ac, nc, kc, lc, q5, sc, _⟩ := open_ints1 (x := u2) s2 key3
      obtain ⟨Ap, np, kp, lp, q8, sp, _⟩ := open_ints1 (x := v2) r2 (key4 2 v2.1 rfl (.inl rfl))
      obtain ⟨Ab, nb, kb, lb, q9, sb, _⟩ := open_ints1 (x := v3) r3 (key4 3 v3.1 rfl (.inr rfl))
      subst q5 q8 q9
      obtain ⟨z0, g0, _, _⟩ := DataW.trod_int Tryz.underlying3 t0
      obtain ⟨z1, g1, _, _⟩ := DataW.trod_int Tryz.underlying3 t1
      obtain ⟨z2, g2, _, _⟩ := DataW.trod_int Tryz.underlying3 t2
      obtain ⟨z3, g3, _, _⟩ := DataW.trod_int Tryz.underlying3 s0
      obtain ⟨z4, g4, _, _⟩ := DataW.trod_int Tryz.underlying3 s1
      obtain ⟨z6, g6, _, _⟩ := DataW.trod_int Tryz.underlying3 r0
      obtain ⟨z7, g7, _, _⟩ := DataW.trod_int Tryz.underlying3 r1
      simp [hc0, hc3, hc4] at g0 g1 g2 g3 g4 g6 g7
      subst g0 g1 g2 g3 g4 g6 g7
      exact ⟨z0, z1, z2, z3, z4, Ac, nc, kc, lc, z6, z7, Ap, np, kp, lp, Ab, nb, kb, lb, rfl, sc, sp, sb⟩
end
end Go.Proofs.YteklfkpeaadinaaGreatDoor.S
