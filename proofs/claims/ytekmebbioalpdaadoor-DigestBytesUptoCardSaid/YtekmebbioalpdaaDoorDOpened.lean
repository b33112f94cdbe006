/-
  What the rows' condition on the package-level variables gives; the world that start-up leaves; the arguments, opened.
-/
import Derived.Test.YtekmebbioalpdaaDoorDAwake
import Derived.Test.YtekmebbioalpdaaDoorTie
import Derived.Test.YtekmebbioalpdaaDoorCards
import Derived.ProofKit
import Derived.OpenShut
import Derived.LaidMore
import Derived.LaidHandle
import Derived.Lib.LaidTab
import Derived.Lib.SmallJoins
import Derived.Deep.Slices
import Derived.Deep.Strs
import Derived.Deep.Matrix
import Derived.Stop.LaidErr
import Derived.Stop.Joined
import Derived.SizedLaws
import Derived.SevenTiedAt
namespace Go.Proofs.YtekmebbioalpdaaDoor
open Go.ChangeShapes Go.WideShapes Go.ChangeAt Go.RowKit Go.Joins

theorem Tryd.own : ownKnob Tryd.prog.godebug = none := by kernel_rfl
theorem Tryd.laidOut : laidOutB Tryd.prog = true := by kernel_rfl
/-- the rows' list -/
abbrev laid1 : List (String × DataW Unit) := Rows.digestTellsRow.laid

theorem door_met (os : Os) (args : Array Value) : laidMetH Tryd.prog laid1 ((World.doorLaid Tryd.prog 23 os).forCall (fun _ _ => 0) ⟨#[], args, []⟩).memory :=
  laidMetH_of_parts3 (fuel := 8) (laidMet_of_run' 8 (by kernel_rfl) (by kernel_rfl)) (by kernel_rfl) (by kernel_rfl)

theorem tab_addends {W : World} {rest : List (String × DataW Unit)} (h : laidMet Tryd.prog (("jetsam/digest.addends", Rows.laid_jetsam_digest_addends) :: rest) W) : W.rangeAt 0 0 (KS.map wv) := by
  have h' : laidMet Tryd.prog (("jetsam/digest.addends", Lib.tabData .u32 (KS.map fun (n : Nat) => (n : Int))) :: rest) W := h
  have ht := Lib.tabIs_of_head (g := 0) (t := 70) (e := 47) (n := 64) (by kernel_rfl) (by kernel_rfl) Tryd.underlying70 Tryd.underlying47 (by kernel_rfl) (by kernel_rfl) h'
  intro j v hv
  have hj : j < 64 := (List.getElem?_eq_some_iff.1 hv).1
  have hc := ht.cell (g := 0) (by kernel_rfl) j (by simpa [KS] using hj)
  rw [KS_at j hj] at hv
  injection hv with hv
  subst hv
  rw [Nat.zero_add, hc]
  have hl : j < KS.length := hj
  simp [hl, wv]

theorem turns_datum {H : Type} : (Rows.laid_jetsam_digest_turns : DataW H) = .agg ((List.range 4).map fun k => .agg ((List.range 4).map fun m => .lit (.int .i64 (TS.getD (k * 4 + m) 0 : Nat)))) := rfl
theorem tab_turns {W : World} {rest : List (String × DataW Unit)} (h : laidMet Tryd.prog (("jetsam/digest.turns", Rows.laid_jetsam_digest_turns) :: rest) W) : ∀ j, j < 16 → W.cell? ⟨1, j, none⟩ = some (iv (TS.getD j 0 : Nat)) := by
  obtain ⟨ps, ⟨g', t', cs, fuel, p, q, hg', ht', hvar, hd, _, _⟩, _⟩ := h
  obtain rfl := Option.some.inj ((show Tryd.prog.globalNamed "jetsam/digest.turns" = some 1 by kernel_rfl).symm.trans hg')
  obtain rfl := Option.some.inj ((show (Tryd.prog.globals[1]?).map (·.type) = some 74 by kernel_rfl).symm.trans ht')
  have c3 : Tryd.prog.cellsOf 3 = 1 := by kernel_rfl
  have c4 : Tryd.prog.cellsOf 73 = 4 := by kernel_rfl
  rw [turns_datum] at hd
  obtain ⟨xs, m, _, hx, hl, hxl, hat⟩ := DataW.trod_array Tryd.underlying74 hd
  rw [c4] at hat
  simp only [Prod.mk.injEq, DataW.agg.injEq] at hx
  obtain ⟨hx, _⟩ := hx
  have key : ∀ k, k < 4 → ∀ i, i < 4 → W.cell? ⟨1, k * 4 + i, none⟩ = some (iv (TS.getD (k * 4 + i) 0 : Nat)) := by
    intro k hk i hi
    have hy := hat k hk
    have hkx : k < xs.length := by omega
    rw [List.getElem?_eq_getElem hkx] at hy
    have h1 : (xs.map (·.1))[k]? = some xs[k].1 := by simp [hkx]
    rw [← hx] at h1
    simp only [List.getElem?_map, List.getElem?_range hk, Option.map_some, Option.some.injEq] at h1
    obtain ⟨ys, m2, _, hy2, hl2, hyl, hat2⟩ := DataW.trod_array Tryd.underlying73 hy
    rw [c3] at hat2
    have hy3 : xs[k].1 = .agg (ys.map (·.1)) := by rw [hy2]
    rw [hy3] at h1
    simp only [DataW.agg.injEq] at h1
    have hz := hat2 i hi
    have hiy : i < ys.length := by omega
    rw [List.getElem?_eq_getElem hiy] at hz
    have h2 : (ys.map (·.1))[i]? = some ys[i].1 := by simp [hiy]
    rw [← h1] at h2
    simp only [List.getElem?_map, List.getElem?_range hi, Option.map_some, Option.some.injEq] at h2
    obtain ⟨x0, a0, b0, _⟩ := DataW.trod_int Tryd.underlying3 hz
    have b1 : ys[i].1 = .lit (.int .i64 x0) := by rw [b0]
    rw [b1] at h2
    simp only [DataW.lit.injEq, Lit.int.injEq, true_and] at h2
    have k0 := World.var?_cell hg' hvar (k * 4 + i)
    have g0 := congrArg (·[0]?) a0
    simp [List.getElem?_drop, hi] at g0
    rw [h2]
    exact k0.trans g0
  intro j hj
  have := key (j / 4) (by omega) (j % 4) (by omega)
  rwa [show j / 4 * 4 + j % 4 = j from by omega] at this

theorem of_laid {W : World} (h0 : laidMetH Tryd.prog laid1 W) : Laid W := by
  rw [MakeChecks.laidMetH_plain _ _ _ (by kernel_rfl)] at h0
  have h : laidMet Tryd.prog [("jetsam/digest.addends", Rows.laid_jetsam_digest_addends), ("jetsam/digest.turns", Rows.laid_jetsam_digest_turns)] W := h0
  exact ⟨tab_addends h, tab_turns (laidMet.tail h)⟩

/-- numbers of Go's int -/
def Fits (n : Int) : Prop := -9223372036854775808 ≤ n ∧ n ≤ 9223372036854775807
theorem fits_of_wf {n : Int} (h : (Lit.int .i64 n).wf = true) : Fits n := by
  have := h
  simp [Lit.wf, IntKind.min, IntKind.max, IntKind.signed, IntKind.bits] at this
  exact ⟨by omega, by omega⟩
section
variable {H : Type} {enc : TypeId × Value → H} {w : World}
theorem sized_bytes {ts : List TypeId} {ds : List (DataW H)} (h : (DataW.weightsEach Tryd.prog ts ds).all (· ≤ reachBytes) = true) {j : Nat} {d : DataW H} (ht : ts[j]? = some 22) (hd : ds[j]? = some d) :
    ∀ elems spare, d = .slice elems spare → elems.length + spare.length ≤ 140737488355328 := by
  rintro elems spare rfl
  have h8 := sized_slice h ht hd Tryd.underlying22
  have hby : Tryd.prog.bytesOf 5 = 1 := by kernel_rfl
  rw [hby] at h8
  unfold reachBytes at h8
  omega
/-- a slice of bytes that came in -/
theorem open_src {A : Option Addr} {len cap : Nat} {d : DataW H} {p : List MemPlace} (h : DataW.Trod enc Tryd.prog w 0 (fun _ => true) true 22 (.slice A len cap) d p)
    (hs : ∀ elems spare, d = .slice elems spare → elems.length + spare.length ≤ 140737488355328) :
    ∃ bs : List Nat, Src w (.slice A len cap) bs ∧ len ≤ cap ∧ cap ≤ 140737488355328 ∧ (A = none → cap = 0) := by
  obtain ⟨fuel, hf⟩ := h
  rcases open_ints Tryd.underlying22 Tryd.underlying5 (by kernel_rfl) hf with ⟨hcs, _⟩ | ⟨x, l, c, zs, hcs, _, hl, hm, hz, hx, hcell, hwz⟩
  · simp [Value.cells] at hcs
    obtain ⟨rfl, rfl, rfl⟩ := hcs
    exact ⟨[], Src.nil w, Nat.le_refl _, by omega, fun _ => rfl⟩
  · simp [Value.cells] at hcs
    obtain ⟨rfl, rfl, rfl⟩ := hcs
    have hz' : zs.length = cap := by simpa using hz
    simp only [Prod.mk.injEq] at hx
    have hsm := hs _ _ hx.1
    simp only [lits, List.length_map, List.length_take, List.length_drop] at hsm
    have hb : ∀ z ∈ zs, 0 ≤ z ∧ z ≤ 255 := fun z hzm => by
      have := hwz z hzm
      simpa [Lit.wf, IntKind.min, IntKind.max, IntKind.signed, IntKind.bits] using this
    have hlen : ((zs.take len).map Int.toNat).length = len := by rw [List.length_map, List.length_take, Nat.min_eq_left (by omega)]
    refine ⟨(zs.take len).map Int.toNat, ⟨⟨some x, cap, by rw [hlen], fun j hj => ⟨x, rfl, ?_⟩⟩, by omega, fun y hy => ?_⟩, hl, by omega, fun e => by cases e⟩
    · rw [hlen] at hj
      have hjz : j < zs.length := by omega
      have h2 := hb zs[j] (List.getElem_mem hjz)
      rw [hcell j hjz]
      simp only [List.getElem_map, List.getElem_take, byt, List.getD_eq_getElem?_getD, List.getElem?_eq_getElem hjz, Option.getD_some]
      rw [Int.toNat_of_nonneg h2.1]
    · obtain ⟨z, hzm, rfl⟩ := List.mem_map.1 hy
      have := hb z (List.mem_of_mem_take hzm)
      omega
theorem weightsAll_mem {P : Program} {e : TypeId} {n : Nat} : ∀ {l : List (DataW H)} {d : DataW H}, d ∈ l → n ∈ d.weights P e → n ∈ DataW.weightsAll P e l
  | [], _, h, _ => by cases h
  | x :: l, d, h, hn => by
    unfold DataW.weightsAll
    rcases List.mem_cons.1 h with rfl | h
    · exact List.mem_append.2 (.inl hn)
    · exact List.mem_append.2 (.inr (weightsAll_mem h hn))
/-- a slice within a slice that came in -/
theorem sized_rows {P : Program} {ts : List TypeId} {ds : List (DataW H)} (h : (DataW.weightsEach P ts ds).all (· ≤ reachBytes) = true) {j : Nat} {t e q : TypeId} {elems spare el sp : List (DataW H)} (ht : ts[j]? = some t) (hd : ds[j]? = some (.slice elems spare))
    (hu : P.underlying t = some (.slice e)) (he : P.underlying e = some (.slice q)) (hm : DataW.slice el sp ∈ elems) : (el.length + sp.length) * P.bytesOf q ≤ reachBytes := by
  have h1 : (el.length + sp.length) * P.bytesOf q ∈ (DataW.slice el sp : DataW H).weights P e := by simp [DataW.weights, he]
  have h2 := weightsAll_mem (P := P) (e := e) hm h1
  have := List.all_eq_true.1 h _ (DataW.weights_mem_each ht hd _ (by simp only [DataW.weights, hu]; exact List.mem_cons_of_mem _ (List.mem_append.2 (.inl h2))))
  simpa using this
/-- a slice of slices of bytes that came in -/
theorem open_lists {ts : List TypeId} {ds : List (DataW H)} (hsz : (DataW.weightsEach Tryd.prog ts ds).all (· ≤ reachBytes) = true) {j : Nat} {A : Option Addr} {len cap : Nat} {d : DataW H} {p : List MemPlace} (ht : ts[j]? = some 28) (hd : ds[j]? = some d)
    (h : DataW.Trod enc Tryd.prog w 0 (fun _ => true) true 28 (.slice A len cap) d p) : ∃ bss : List (List Nat), Lists w (.slice A len cap) bss ∧ len ≤ cap := by
  obtain ⟨fuel, hf⟩ := h
  rcases Deep.open_int_rows Tryd.underlying28 Tryd.underlying22 Tryd.underlying5 (by kernel_rfl) (by kernel_rfl) hf with ⟨hcs, _⟩ | ⟨a, l, c, A', L, C, Z, hcs, _, hl, hm, hxd, hr⟩
  · simp [Value.cells] at hcs
    obtain ⟨rfl, rfl, rfl⟩ := hcs
    exact ⟨[], Lists.nil w, Nat.le_refl _⟩
  · simp [Value.cells] at hcs
    obtain ⟨rfl, rfl, rfl⟩ := hcs
    simp only [Prod.mk.injEq] at hxd
    have hdd := hxd.1
    rw [hdd] at hd
    have htop := sized_slice hsz ht hd Tryd.underlying28
    have hb24 : Tryd.prog.bytesOf 22 = 24 := by kernel_rfl
    have hb1 : Tryd.prog.bytesOf 5 = 1 := by kernel_rfl
    rw [hb24] at htop
    simp only [List.length_map, List.length_range] at htop
    unfold reachBytes at htop
    have hlen : ((List.range len).map fun j => ((Z j).take (L j)).map Int.toNat).length = len := by simp
    refine ⟨(List.range len).map fun j => ((Z j).take (L j)).map Int.toNat, ⟨⟨some a, cap, by rw [hlen], fun j hj => ?_⟩, by rw [hlen]; omega⟩, hl⟩
    have hj' : j < len := by simpa using hj
    obtain ⟨hc, hL, hC, hZ, hwz, hn, hA⟩ := hr j (by omega)
    have hlj : (((Z j).take (L j)).map Int.toNat).length = L j := by rw [List.length_map, List.length_take, Nat.min_eq_left (by omega)]
    have hCs : C j ≤ 140737488355328 := by
      cases hAj : A' j with
      | none => have := hn hAj; omega
      | some a' =>
        have hmem : (Deep.intRow .u8 (A' j) (L j) (Z j) : DataW H) ∈ (List.range len).map fun r => Deep.intRow .u8 (A' r) (L r) (Z r) := List.mem_map.2 ⟨j, List.mem_range.2 hj', rfl⟩
        unfold Deep.intRow at hmem
        rw [hAj] at hmem
        have := sized_rows hsz ht hd Tryd.underlying28 Tryd.underlying22 (el := lits .u8 ((Z j).take (L j))) (sp := lits .u8 ((Z j).drop (L j))) hmem
        rw [hb1] at this
        simp only [lits, List.length_map, List.length_take, List.length_drop] at this
        unfold reachBytes at this
        omega
    simp only [List.getElem_map, List.getElem_range]
    refine ⟨a, A' j, C j, rfl, by rw [hlj]; exact hc, by rw [hlj]; exact hL, ⟨⟨A' j, C j, rfl, fun k hk => ?_⟩, by omega, fun y hy => ?_⟩⟩
    · rw [hlj] at hk
      cases hAj : A' j with
      | none => have := hn hAj; omega
      | some a' =>
        refine ⟨a', rfl, ?_⟩
        rw [(hA a' hAj).2 k (by omega)]
        have hkz : k < (Z j).length := by omega
        have h2 := hwz (Z j)[k] (List.getElem_mem hkz)
        simp [Lit.wf, IntKind.min, IntKind.max, IntKind.signed, IntKind.bits] at h2
        simp only [List.getElem_map, List.getElem_take, byt, List.getD_eq_getElem?_getD, List.getElem?_eq_getElem hkz, Option.getD_some]
        rw [Int.toNat_of_nonneg h2.1]
    · obtain ⟨z, hzm, rfl⟩ := List.mem_map.1 hy
      have h2 := hwz z (List.mem_of_mem_take hzm)
      simp [Lit.wf, IntKind.min, IntKind.max, IntKind.signed, IntKind.bits] at h2
      omega
/-- a slice of slices of numbers that came in -/
theorem open_rws {ts : List TypeId} {ds : List (DataW H)} (hsz : (DataW.weightsEach Tryd.prog ts ds).all (· ≤ reachBytes) = true) {j : Nat} {A : Option Addr} {len cap : Nat} {d : DataW H} {p : List MemPlace} (ht : ts[j]? = some 35) (hd : ds[j]? = some d)
    (h : DataW.Trod enc Tryd.prog w 0 (fun _ => true) true 35 (.slice A len cap) d p) : ∃ xss : List (List Int), Rws w (.slice A len cap) xss ∧ len ≤ cap ∧ (∀ el sp, d = .slice el sp → el = (List.range len).map (fun r => el.getD r .nil) ∧ ∀ r, (hr : r < xss.length) → 0 < xss[r].length → ∃ ys zs, el.getD r .nil = .slice ys zs ∧ ys.length = xss[r].length) ∧ (xss = [] ∨ ∃ el sp, d = .slice el sp) := by
  obtain ⟨fuel, hf⟩ := h
  rcases Deep.open_int_rows Tryd.underlying35 Tryd.underlying39 Tryd.underlying3 (by kernel_rfl) (by kernel_rfl) hf with ⟨hcs, hxd⟩ | ⟨a, l, c, A', L, C, Z, hcs, _, hl, hm, hxd, hr⟩
  · simp [Value.cells] at hcs
    obtain ⟨rfl, rfl, rfl⟩ := hcs
    refine ⟨[], ⟨⟨none, 0, rfl, fun j hj => by simp at hj⟩, by simp⟩, Nat.le_refl _, fun el sp e => ?_, .inl rfl⟩
    simp only [Prod.mk.injEq] at hxd
    rw [hxd.1] at e
    cases e
  · simp [Value.cells] at hcs
    obtain ⟨rfl, rfl, rfl⟩ := hcs
    simp only [Prod.mk.injEq] at hxd
    have hdd := hxd.1
    rw [hdd] at hd
    have htop := sized_slice hsz ht hd Tryd.underlying35
    have hb24 : Tryd.prog.bytesOf 39 = 24 := by kernel_rfl
    have hb8 : Tryd.prog.bytesOf 3 = 8 := by kernel_rfl
    rw [hb24] at htop
    simp only [List.length_map, List.length_range] at htop
    unfold reachBytes at htop
    have hlen : ((List.range len).map fun j => (Z j).take (L j)).length = len := by simp
    refine ⟨(List.range len).map fun j => (Z j).take (L j), ⟨⟨some a, cap, by rw [hlen], fun j hj => ?_⟩, by rw [hlen]; omega⟩, hl, fun el sp e => ?_, .inr ⟨_, _, hdd⟩⟩
    · have hj' : j < len := by simpa using hj
      obtain ⟨hc, hL, hC, hZ, hwz, hn, hA⟩ := hr j (by omega)
      have hlj : ((Z j).take (L j)).length = L j := by rw [List.length_take, Nat.min_eq_left (by omega)]
      have hCs : C j ≤ 140737488355328 := by
        cases hAj : A' j with
        | none => have := hn hAj; omega
        | some a' =>
          have hmem : (Deep.intRow .i64 (A' j) (L j) (Z j) : DataW H) ∈ (List.range len).map fun r => Deep.intRow .i64 (A' r) (L r) (Z r) := List.mem_map.2 ⟨j, List.mem_range.2 hj', rfl⟩
          unfold Deep.intRow at hmem
          rw [hAj] at hmem
          have := sized_rows hsz ht hd Tryd.underlying35 Tryd.underlying39 (el := lits .i64 ((Z j).take (L j))) (sp := lits .i64 ((Z j).drop (L j))) hmem
          rw [hb8] at this
          simp only [lits, List.length_map, List.length_take, List.length_drop] at this
          unfold reachBytes at this
          omega
      simp only [List.getElem_map, List.getElem_range]
      refine ⟨a, A' j, C j, rfl, by rw [hlj]; exact hc, ⟨⟨A' j, C j, rfl, fun k hk => ?_⟩, by omega, fun y hy => ?_⟩⟩
      · rw [hlj] at hk
        cases hAj : A' j with
        | none => have := hn hAj; omega
        | some a' =>
          refine ⟨a', rfl, ?_⟩
          rw [(hA a' hAj).2 k (by omega)]
          have hkz : k < (Z j).length := by omega
          simp only [List.getElem_take, List.getD_eq_getElem?_getD, List.getElem?_eq_getElem hkz, Option.getD_some]
      · exact fits_of_wf (hwz y (List.mem_of_mem_take hy))
    · rw [hdd] at e
      injection e with e1 e2
      subst e1
      refine ⟨?_, fun r hr' h0 => ?_⟩
      · apply List.ext_getElem
        · simp
        · intro i h1 h2
          simp at h1
          simp [h1]
      · have hr2 : r < len := by simpa using hr'
        obtain ⟨hc, hL, hC, hZ, hwz, hn, hA⟩ := hr r (by omega)
        have hlr : ((Z r).take (L r)).length = L r := by rw [List.length_take, Nat.min_eq_left (by omega)]
        simp only [List.getElem_map, List.getElem_range] at h0 ⊢
        rw [hlr] at h0 ⊢
        cases hAr : A' r with
        | none => have := hn hAr; omega
        | some a' =>
          refine ⟨lits .i64 ((Z r).take (L r)), lits .i64 ((Z r).drop (L r)), ?_, by simp [lits]; omega⟩
          simp [hr2, Deep.intRow, hAr]
end
end Go.Proofs.YtekmebbioalpdaaDoor
