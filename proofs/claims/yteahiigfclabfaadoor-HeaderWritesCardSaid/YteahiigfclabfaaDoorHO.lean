/-
  What the rows' condition on package-level variables gives; the world that start-up leaves; the arguments, opened.
-/
import Derived.Test.YteahiigfclabfaaDoorHQ
import Derived.Test.YteahiigfclabfaaDoorTie
import Derived.Test.YteahiigfclabfaaDoorCards
import Derived.ProofKit
import Derived.OpenShut
import Derived.LaidMore
import Derived.LaidHandle
import Derived.Lib.LaidTab
import Derived.Lib.SmallJoins
import Derived.Deep.Slices
import Derived.Deep.Strs
import Derived.Stop.LaidErr
import Derived.Stop.Joined
import Derived.SizedLaws
import Derived.SevenTiedAt
namespace Go.Proofs.YteahiigfclabfaaDoor.H
open Go.ChangeShapes Go.WideShapes Go.ChangeAt Go.RowKit Go.Joins

theorem Tryd.own : ownKnob Tryd.prog.godebug = none := by kernel_rfl
theorem Tryd.laidOut : laidOutB Tryd.prog = true := by kernel_rfl
/-- the rows' list -/
abbrev laid8 : List (String × DataW Unit) := Rows.headerWritesRow.laid

theorem door_met (os : Os) (args : Array Value) : laidMetH Tryd.prog laid8 ((World.doorLaid Tryd.prog 93 os).forCall (fun _ _ => 0) ⟨#[], args, []⟩).memory :=
  laidMetH_of_parts3 (fuel := 8) (laidMet_of_run' 8 (by kernel_rfl) (by kernel_rfl)) (by kernel_rfl) (by kernel_rfl)

theorem kinds_datum {H : Type} : (Rows.laid_jetsam_coded_kinds : DataW H) = .agg ((List.range 7).map fun k => .agg [.lit (.int .i64 (U.bel.getD k 0 : Nat)), .lit (.int .i64 (U.mrk.getD k 0 : Nat)), .lit (.int .i64 (U.bts.getD k 0 : Nat))]) := rfl
set_option maxRecDepth 100000 in
theorem tab_kinds {W : World} {rest : List (String × DataW Unit)} (h : laidMet Tryd.prog (("jetsam/coded.kinds", Rows.laid_jetsam_coded_kinds) :: rest) W) : U.LaidC W := by
  obtain ⟨ps, ⟨g', t', cs, fuel, p, q, hg', ht', hvar, hd, _, _⟩, _⟩ := h
  obtain rfl := Option.some.inj ((show Tryd.prog.globalNamed "jetsam/coded.kinds" = some 7 by kernel_rfl).symm.trans hg')
  obtain rfl := Option.some.inj ((show (Tryd.prog.globals[7]?).map (·.type) = some 113 by kernel_rfl).symm.trans ht')
  have c3 : Tryd.prog.cellsOf 3 = 1 := by kernel_rfl
  have c39 : Tryd.prog.cellsOf 112 = 3 := by kernel_rfl
  rw [kinds_datum] at hd
  obtain ⟨xs, m, _, hx, hl, hxl, hat⟩ := DataW.trod_array Tryd.underlying113 hd
  rw [c39] at hat
  simp only [Prod.mk.injEq, DataW.agg.injEq] at hx
  obtain ⟨hx, _⟩ := hx
  have key : ∀ k, k < 7 → W.cell? ⟨7, k * 3, none⟩ = some (iv (U.bel.getD k 0 : Nat)) ∧ W.cell? ⟨7, k * 3 + 1, none⟩ = some (iv (U.mrk.getD k 0 : Nat)) ∧ W.cell? ⟨7, k * 3 + 2, none⟩ = some (iv (U.bts.getD k 0 : Nat)) := by
    intro k hk
    have hy := hat k hk
    have hkx : k < xs.length := by omega
    rw [List.getElem?_eq_getElem hkx] at hy
    have h1 : (xs.map (·.1))[k]? = some xs[k].1 := by simp [hkx]
    rw [← hx] at h1
    simp only [List.getElem?_map, List.getElem?_range hk, Option.map_some, Option.some.injEq] at h1
    obtain ⟨y0, y1, y2, n, e, hl3, t0, t1, t2⟩ := Deep.trod_struct3 Tryd.underlying112 hy
    rw [e] at h1
    simp only [DataW.agg.injEq, List.cons.injEq, and_true] at h1
    obtain ⟨x0, a0, b0, _⟩ := DataW.trod_int Tryd.underlying3 t0
    obtain ⟨x1, a1, b1, _⟩ := DataW.trod_int Tryd.underlying3 t1
    obtain ⟨x2, a2, b2, _⟩ := DataW.trod_int Tryd.underlying3 t2
    obtain ⟨h10, h11, h12⟩ := h1
    subst b0 b1 b2
    simp only [DataW.lit.injEq, Lit.int.injEq, true_and] at h10 h11 h12
    rw [c3] at a0 a1 a2
    have k0 := World.var?_cell hg' hvar (k * 3)
    have k1 := World.var?_cell hg' hvar (k * 3 + 1)
    have k2 := World.var?_cell hg' hvar (k * 3 + 2)
    have g0 := congrArg (·[0]?) a0
    have g1 := congrArg (·[0]?) a1
    have g2 := congrArg (·[0]?) a2
    simp [List.getElem?_drop] at g0 g1 g2
    rw [h10, h11, h12]
    exact ⟨k0.trans g0, k1.trans g1, k2.trans g2⟩
  exact ⟨fun k hk => (key k hk).1, fun k hk => (key k hk).2.1, fun k hk => (key k hk).2.2⟩
set_option maxRecDepth 100000 in
theorem two_of_head {W : World} {name : String} {a b : Int} {rest : List (String × DataW Unit)} {g : Nat}
    (hg : Tryd.prog.globalNamed name = some g) (hty : (Tryd.prog.globals[g]?).map (·.type) = some 96)
    (h : laidMet Tryd.prog ((name, .agg [.lit (.int .i64 a), .lit (.int .i64 b)]) :: rest) W) : W.cell? ⟨g, 0, none⟩ = some (iv a) ∧ W.cell? ⟨g, 1, none⟩ = some (iv b) := by
  obtain ⟨ps, ⟨g', t', cs, fuel, p, q, hg', ht', hvar, hd, _, _⟩, _⟩ := h
  obtain rfl := Option.some.inj (hg.symm.trans hg')
  obtain rfl := Option.some.inj (hty.symm.trans ht')
  have c3 : Tryd.prog.cellsOf 3 = 1 := by kernel_rfl
  have c44 : Tryd.prog.cellsOf 96 = 2 := by kernel_rfl
  obtain ⟨y0, y1, n, hx, hl, h0, h1⟩ := trod_struct2 Tryd.underlying96 hd
  simp only [Prod.mk.injEq, DataW.agg.injEq, List.cons.injEq, and_true] at hx
  obtain ⟨x, e0, e0', _⟩ := DataW.trod_int Tryd.underlying3 h0
  obtain ⟨y, e1, e1', _⟩ := DataW.trod_int Tryd.underlying3 h1
  have k0 := World.var?_cell hg' hvar 0
  have k1 := World.var?_cell hg' hvar 1
  obtain ⟨l⟩ := cs
  rw [c44] at hl
  rw [c3] at e0 e1
  obtain ⟨⟨hx0, hx1⟩, _⟩ := hx
  rw [e0'] at hx0
  rw [e1'] at hx1
  match l, hl with
  | [u0, u1], _ =>
    simp at e0 e1 hx0 hx1
    subst e0 e1 hx0 hx1
    exact ⟨by simpa using k0, by simpa using k1⟩
theorem tab_higher8 {W : World} {rest : List (String × DataW Unit)} (h : laidMet Tryd.prog (("jetsam/sums.higher8", Rows.laid_jetsam_sums_higher8) :: rest) W) : ∀ k, k < 16 → W.cell? ⟨5, k, none⟩ = some (iv (U.hi8.getD k 0 : Nat)) := by
  have h' : laidMet Tryd.prog (("jetsam/sums.higher8", Lib.tabData .i64 (U.hi8.map fun (n : Nat) => (n : Int))) :: rest) W := h
  have ht := Lib.tabIs_of_head (g := 5) (t := 98) (e := 3) (n := 16) (by kernel_rfl) (by kernel_rfl) Tryd.underlying98 Tryd.underlying3 (by kernel_rfl) (by kernel_rfl) h'
  intro k hk
  have hc := ht.cell (g := 5) (by kernel_rfl) k (by simpa [U.hi8] using hk)
  rw [hc]
  have hl : k < U.hi8.length := hk
  simp [hl]
theorem tab_lower8 {W : World} {rest : List (String × DataW Unit)} (h : laidMet Tryd.prog (("jetsam/sums.lower8", Rows.laid_jetsam_sums_lower8) :: rest) W) : ∀ k, k < 16 → W.cell? ⟨6, k, none⟩ = some (iv (U.lo8.getD k 0 : Nat)) := by
  have h' : laidMet Tryd.prog (("jetsam/sums.lower8", Lib.tabData .i64 (U.lo8.map fun (n : Nat) => (n : Int))) :: rest) W := h
  have ht := Lib.tabIs_of_head (g := 6) (t := 98) (e := 3) (n := 16) (by kernel_rfl) (by kernel_rfl) Tryd.underlying98 Tryd.underlying3 (by kernel_rfl) (by kernel_rfl) h'
  intro k hk
  have hc := ht.cell (g := 6) (by kernel_rfl) k (by simpa [U.lo8] using hk)
  rw [hc]
  have hl : k < U.lo8.length := hk
  simp [hl]
theorem tab_chans {W : World} {rest : List (String × DataW Unit)} (h : laidMet Tryd.prog (("jetsam/header.channels", Rows.laid_jetsam_header_channels) :: rest) W) : ∀ k, k < 11 → W.cell? ⟨3, k, none⟩ = some (iv (chT.getD k 0 : Nat)) := by
  have h' : laidMet Tryd.prog (("jetsam/header.channels", Lib.tabData .i64 (chT.map fun (n : Nat) => (n : Int))) :: rest) W := h
  have ht := Lib.tabIs_of_head (g := 3) (t := 84) (e := 3) (n := 11) (by kernel_rfl) (by kernel_rfl) Tryd.underlying84 Tryd.underlying3 (by kernel_rfl) (by kernel_rfl) h'
  intro k hk
  have hc := ht.cell (g := 3) (by kernel_rfl) k (by simpa [chT] using hk)
  rw [hc]
  have hl : k < chT.length := hk
  simp [hl]
/-- a table's datum -/
def rowD {H : Type} (T : List Rw) : DataW H := .agg (T.map fun r => .agg [.lit (.int .i64 r.u), .lit (.int .i64 r.l), .lit (.int .i64 r.m), .lit (.int .i64 r.s)])
theorem blocks_datum {H : Type} : (Rows.laid_jetsam_header_blocks : DataW H) = rowD bT := rfl
theorem rates_datum {H : Type} : (Rows.laid_jetsam_header_rates : DataW H) = rowD rT := rfl
theorem depths_datum {H : Type} : (Rows.laid_jetsam_header_depths : DataW H) = rowD dT := rfl
set_option maxRecDepth 100000 in
theorem rows_of_head {W : World} {name : String} {T : List Rw} (hT : TOk T) {D : DataW Unit} {rest : List (String × DataW Unit)} {g : Nat}
    (hg : Tryd.prog.globalNamed name = some g) (hty : (Tryd.prog.globals[g]?).map (·.type) = some 61) (hD : D = rowD T)
    (h : laidMet Tryd.prog ((name, D) :: rest) W) : W.rangeAt g 0 (tl T) := by
  subst hD
  obtain ⟨ps, ⟨g', t', cs, fuel, p, q, hg', ht', hvar, hd, _, _⟩, _⟩ := h
  obtain rfl := Option.some.inj (hg.symm.trans hg')
  obtain rfl := Option.some.inj (hty.symm.trans ht')
  have c1 : Tryd.prog.cellsOf 3 = 1 := by kernel_rfl
  have c4 : Tryd.prog.cellsOf 59 = 4 := by kernel_rfl
  obtain ⟨xs, m, _, hx, hl, hxl, hat⟩ := DataW.trod_array Tryd.under_table hd
  rw [c4] at hat
  simp only [rowD, Prod.mk.injEq, DataW.agg.injEq] at hx
  obtain ⟨hx, _⟩ := hx
  have key : ∀ k, (hk : k < 16) → ∀ i, i < 4 → W.cell? ⟨g, k * 4 + i, none⟩ = (rc (T[k]'(by rw [hT.len]; exact hk)))[i]? := by
    intro k hk
    have hy := hat k hk
    have hkT : k < T.length := by rw [hT.len]; exact hk
    have hkx : k < xs.length := by omega
    rw [List.getElem?_eq_getElem hkx] at hy
    have h1 : (xs.map (·.1))[k]? = some xs[k].1 := by simp [hkx]
    rw [← hx] at h1
    simp only [List.getElem?_map, List.getElem?_eq_getElem hkT, Option.map_some, Option.some.injEq] at h1
    obtain ⟨y0, y1, y2, y3, n, e, hl3, t0, t1, t2, t3⟩ := trod_struct4 Tryd.underlying59 hy
    rw [e] at h1
    simp only [DataW.agg.injEq, List.cons.injEq, and_true] at h1
    obtain ⟨x0, a0, b0, _⟩ := DataW.trod_int Tryd.underlying3 t0
    obtain ⟨x1, a1, b1, _⟩ := DataW.trod_int Tryd.underlying3 t1
    obtain ⟨x2, a2, b2, _⟩ := DataW.trod_int Tryd.underlying3 t2
    obtain ⟨x3, a3, b3, _⟩ := DataW.trod_int Tryd.underlying3 t3
    obtain ⟨h10, h11, h12, h13⟩ := h1
    subst b0 b1 b2 b3
    simp only [DataW.lit.injEq, Lit.int.injEq, true_and] at h10 h11 h12 h13
    rw [c1] at a0 a1 a2 a3
    have k0 := World.var?_cell hg' hvar (k * 4)
    have k1 := World.var?_cell hg' hvar (k * 4 + 1)
    have k2 := World.var?_cell hg' hvar (k * 4 + 2)
    have k3 := World.var?_cell hg' hvar (k * 4 + 3)
    have g0 := congrArg (·[0]?) a0
    have g1 := congrArg (·[0]?) a1
    have g2 := congrArg (·[0]?) a2
    have g3 := congrArg (·[0]?) a3
    simp [List.getElem?_drop] at g0 g1 g2 g3
    intro i hi
    match i, hi with
    | 0, _ => rw [Nat.add_zero, k0, g0, ← h10]; rfl
    | 1, _ => rw [k1, g1, ← h11]; rfl
    | 2, _ => rw [k2, g2, ← h12]; rfl
    | 3, _ => rw [k3, g3, ← h13]; rfl
  intro j v hj
  have hjl : j < (tl T).length := (List.getElem?_eq_some_iff.1 hj).1
  rw [tl_len, hT.len] at hjl
  have hj16 : j / 4 < 16 := by omega
  have e := tl_at T (j / 4) (j % 4) (by rw [hT.len]; exact hj16) (by omega)
  have k := key (j / 4) hj16 (j % 4) (by omega)
  rw [show j / 4 * 4 + j % 4 = j from by omega] at e k
  rw [Nat.zero_add, k, ← e]
  exact hj
theorem of_laid {W : World} (h0 : laidMetH Tryd.prog laid8 W) : LaidH W := by
  rw [MakeChecks.laidMetH_plain _ _ _ (by kernel_rfl)] at h0
  have h : laidMet Tryd.prog [("jetsam/coded.kinds", Rows.laid_jetsam_coded_kinds), ("jetsam/sums.eight", Rows.laid_jetsam_sums_eight), ("jetsam/sums.higher8", Rows.laid_jetsam_sums_higher8), ("jetsam/sums.lower8", Rows.laid_jetsam_sums_lower8), ("jetsam/header.blocks", Rows.laid_jetsam_header_blocks), ("jetsam/header.rates", Rows.laid_jetsam_header_rates), ("jetsam/header.depths", Rows.laid_jetsam_header_depths), ("jetsam/header.channels", Rows.laid_jetsam_header_channels)] W := h0
  have t1 := laidMet.tail h
  have t2 := laidMet.tail t1
  have t3 := laidMet.tail t2
  have t4 := laidMet.tail t3
  have t5 := laidMet.tail t4
  have t6 := laidMet.tail t5
  have t7 := laidMet.tail t6
  have a := two_of_head (g := 4) (by kernel_rfl) (by kernel_rfl) t1
  exact ⟨⟨a.1, a.2, tab_higher8 t2, tab_lower8 t3⟩, tab_kinds h, rows_of_head bOk (by kernel_rfl) (by kernel_rfl) blocks_datum t4, rows_of_head rOk (by kernel_rfl) (by kernel_rfl) rates_datum t5, rows_of_head dOk (by kernel_rfl) (by kernel_rfl) depths_datum t6, tab_chans t7⟩

theorem i64_of_wf {n : Int} (h : (Lit.int .i64 n).wf = true) : I64 n := by
  have := h
  simp [Lit.wf, IntKind.min, IntKind.max, IntKind.signed, IntKind.bits] at this
  exact ⟨by omega, by omega⟩
section
variable {H : Type} {enc : TypeId × Value → H} {w : World}
theorem sized_bytes {ts : List TypeId} {ds : List (DataW H)} (h : (DataW.weightsEach Tryd.prog ts ds).all (· ≤ reachBytes) = true) {j : Nat} {d : DataW H} (ht : ts[j]? = some 28) (hd : ds[j]? = some d) :
    ∀ elems spare, d = .slice elems spare → elems.length + spare.length ≤ 140737488355328 := by
  rintro elems spare rfl
  have h8 := sized_slice h ht hd Tryd.underlying28
  have hby : Tryd.prog.bytesOf 5 = 1 := by kernel_rfl
  rw [hby] at h8
  unfold reachBytes at h8
  omega
/-- a slice of bytes that came in -/
theorem open_src {A : Option Addr} {len cap : Nat} {d : DataW H} {p : List MemPlace} (h : DataW.Trod enc Tryd.prog w 0 (fun _ => true) true 28 (.slice A len cap) d p)
    (hs : ∀ elems spare, d = .slice elems spare → elems.length + spare.length ≤ 140737488355328) :
    ∃ bs : List Nat, U.Src w (.slice A len cap) bs ∧ len ≤ cap ∧ cap ≤ 140737488355328 ∧ (A = none → cap = 0) := by
  obtain ⟨fuel, hf⟩ := h
  rcases open_ints Tryd.underlying28 Tryd.underlying5 (by kernel_rfl) hf with ⟨hcs, _⟩ | ⟨x, l, c, zs, hcs, _, hl, hm, hz, hx, hcell, hwz⟩
  · simp [Value.cells] at hcs
    obtain ⟨rfl, rfl, rfl⟩ := hcs
    exact ⟨[], U.Src.nil w, Nat.le_refl _, by omega, fun _ => rfl⟩
  · simp [Value.cells] at hcs
    obtain ⟨rfl, rfl, rfl⟩ := hcs
    have hz' : zs.length = cap := by simpa using hz
    simp only [Prod.mk.injEq] at hx
    have hsm := hs _ _ hx.1
    simp only [lits, List.length_map, List.length_take, List.length_drop] at hsm
    have hb : ∀ z ∈ zs, 0 ≤ z ∧ z ≤ 255 := fun z hzm => by
      have := hwz z hzm
      simpa [Lit.wf, IntKind.min, IntKind.max, IntKind.signed, IntKind.bits] using this
    have hlen : ((zs.take len).map Int.toNat).length = len := by rw [List.length_map, List.length_take, Nat.min_eq_left (by omega)]
    refine ⟨(zs.take len).map Int.toNat, ⟨⟨some x, cap, by rw [hlen], fun j hj => ⟨x, rfl, ?_⟩⟩, by omega, fun y hy => ?_⟩, hl, by omega, fun e => by cases e⟩
    · rw [hlen] at hj
      have hjz : j < zs.length := by omega
      have h2 := hb zs[j] (List.getElem_mem hjz)
      rw [hcell j hjz]
      simp only [List.getElem_map, List.getElem_take, byt, List.getD_eq_getElem?_getD, List.getElem?_eq_getElem hjz, Option.getD_some]
      rw [Int.toNat_of_nonneg h2.1]
    · obtain ⟨z, hzm, rfl⟩ := List.mem_map.1 hy
      have := hb z (List.mem_of_mem_take hzm)
      omega
set_option maxRecDepth 100000 in
set_option maxHeartbeats 1000000 in
/-- a header that came in -/
theorem open_hd {b0 : Nat} {v : Value} {d : DataW H} {p : List MemPlace} (hok : Value.okWide Tryd.prog w .any b0 23 v) (h : DataW.Trod enc Tryd.prog w 0 (fun _ => true) true 23 v d p) :
    ∃ x : Hd, HdI x ∧ v = hv x := by
  have hc1 : Tryd.prog.cellsOf 3 = 1 := by kernel_rfl
  have hc0 : Tryd.prog.cellsOf 4 = 1 := by kernel_rfl
  have hc9 : Tryd.prog.cellsOf 23 = 9 := by kernel_rfl
  obtain ⟨cs, rfl, hs9⟩ := okWide_struct Tryd.underlying23 hok
  obtain ⟨fuel, hf⟩ := h
  obtain ⟨xs, nn, _, hx, hl, hlen, hft⟩ := DataW.trod_struct Tryd.underlying23 hf
  obtain ⟨l⟩ := cs
  match l, hs9.trans hc9 with
  | [x0, x1, x2, x3, x4, x5, x6, x7, x8], _ =>
    match xs, hlen with
    | [y0, y1, y2, y3, y4, y5, y6, y7, y8], _ =>
      have t0 := hft 0 _ rfl
      have t1 := hft 1 _ rfl
      have t2 := hft 2 _ rfl
      have t3 := hft 3 _ rfl
      have t4 := hft 4 _ rfl
      have t5 := hft 5 _ rfl
      have t6 := hft 6 _ rfl
      have t7 := hft 7 _ rfl
      have t8 := hft 8 _ rfl
      simp only [Value.cells, List.getElem?_cons_zero, List.getElem?_cons_succ] at t0 t1 t2 t3 t4 t5 t6 t7 t8
      obtain ⟨z0, g0, _⟩ := DataW.trod_bool Tryd.underlying4 t0
      obtain ⟨z1, g1, _, w1⟩ := DataW.trod_int Tryd.underlying3 t1
      obtain ⟨z2, g2, _, w2⟩ := DataW.trod_int Tryd.underlying3 t2
      obtain ⟨z3, g3, _, w3⟩ := DataW.trod_int Tryd.underlying3 t3
      obtain ⟨z4, g4, _, w4⟩ := DataW.trod_int Tryd.underlying3 t4
      obtain ⟨z5, g5, _, w5⟩ := DataW.trod_int Tryd.underlying3 t5
      obtain ⟨z6, g6, _, w6⟩ := DataW.trod_int Tryd.underlying3 t6
      obtain ⟨z7, g7, _, w7⟩ := DataW.trod_int Tryd.underlying3 t7
      obtain ⟨z8, g8, _, w8⟩ := DataW.trod_int Tryd.underlying3 t8
      simp [hc0, hc1] at g0 g1 g2 g3 g4 g5 g6 g7 g8
      subst g0 g1 g2 g3 g4 g5 g6 g7 g8
      exact ⟨⟨z0, z1, z2, z3, z4, z5, z6, z7, z8⟩, ⟨i64_of_wf w1, i64_of_wf w2, i64_of_wf w3, i64_of_wf w4, i64_of_wf w5, i64_of_wf w6, i64_of_wf w7, i64_of_wf w8⟩, rfl⟩
set_option maxRecDepth 100000 in
/-- parameters that came in -/
theorem open_params {b0 : Nat} {v : Value} {d : DataW H} {p : List MemPlace} (hok : Value.okWide Tryd.prog w .any b0 42 v) (h : DataW.Trod enc Tryd.prog w 0 (fun _ => true) true 42 v d p) :
    ∃ r c e : Int, I64 r ∧ I64 c ∧ I64 e ∧ v = .agg #[iv r, iv c, iv e] := by
  have hc1 : Tryd.prog.cellsOf 3 = 1 := by kernel_rfl
  have hc3 : Tryd.prog.cellsOf 42 = 3 := by kernel_rfl
  obtain ⟨cs, rfl, hs3⟩ := okWide_struct Tryd.underlying42 hok
  obtain ⟨fuel, hf⟩ := h
  obtain ⟨y0, y1, y2, n, hx, hl, t0, t1, t2⟩ := Deep.trod_struct3 Tryd.underlying42 hf
  obtain ⟨l⟩ := cs
  match l, hs3.trans hc3 with
  | [x0, x1, x2], _ =>
    simp only [Value.cells] at t0 t1 t2
    obtain ⟨z0, g0, _, w0⟩ := DataW.trod_int Tryd.underlying3 t0
    obtain ⟨z1, g1, _, w1⟩ := DataW.trod_int Tryd.underlying3 t1
    obtain ⟨z2, g2, _, w2⟩ := DataW.trod_int Tryd.underlying3 t2
    simp [hc1] at g0 g1 g2
    subst g0 g1 g2
    exact ⟨z0, z1, z2, i64_of_wf w0, i64_of_wf w1, i64_of_wf w2, rfl⟩
set_option maxRecDepth 100000 in
/-- an array of three ints that came in -/
theorem open_three {b0 : Nat} {v : Value} {d : DataW H} {p : List MemPlace} (hok : Value.okWide Tryd.prog w .any b0 40 v) (h : DataW.Trod enc Tryd.prog w 0 (fun _ => true) true 40 v d p) :
    ∃ a b c : Int, I64 a ∧ I64 b ∧ I64 c ∧ v = .agg #[iv a, iv b, iv c] := by
  have hu : Tryd.prog.underlying 40 = some (.array 3 3) := by kernel_rfl
  have hc1 : Tryd.prog.cellsOf 3 = 1 := by kernel_rfl
  have hc3 : Tryd.prog.cellsOf 40 = 3 := by kernel_rfl
  simp only [Value.okWide, hu] at hok
  obtain ⟨cs, rfl, hs3, _⟩ := hok
  obtain ⟨fuel, hf⟩ := h
  obtain ⟨l⟩ := cs
  obtain ⟨xs, m, _, hx, hl, hn, hi⟩ := DataW.trod_array hu hf
  rw [hc1] at hi
  match l, hs3.trans hc3 with
  | [x0, x1, x2], _ =>
    match xs, hn with
    | [y0, y1, y2], _ =>
      have t0 := hi 0 (by omega)
      have t1 := hi 1 (by omega)
      have t2 := hi 2 (by omega)
      simp only [Value.cells, List.getElem?_cons_zero, List.getElem?_cons_succ] at t0 t1 t2
      obtain ⟨z0, g0, _, w0⟩ := DataW.trod_int Tryd.underlying3 t0
      obtain ⟨z1, g1, _, w1⟩ := DataW.trod_int Tryd.underlying3 t1
      obtain ⟨z2, g2, _, w2⟩ := DataW.trod_int Tryd.underlying3 t2
      simp at g0 g1 g2
      subst g0 g1 g2
      exact ⟨z0, z1, z2, i64_of_wf w0, i64_of_wf w1, i64_of_wf w2, rfl⟩
end
end Go.Proofs.YteahiigfclabfaaDoor.H
