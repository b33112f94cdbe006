/-
  Proved: for every depth and every channels of bulk at most 1048576 (every value counted), DigestBytes returns true and leaves its arguments as they were, the listed package-level variables of package digest read as start-up lays them, which the card ties to the program's text. Its condition: that bound.
-/
import Derived.Test.YtekmebbioalpdaaDoorDLBytes
import Derived.Test.YtekmebbioalpdaaDoorDOpened
import Derived.Deep.DeepHandedRow
import Derived.Deep.DeepWitnessRowRef
namespace Go.Proofs.YtekmebbioalpdaaDoor
open Go.ChangeShapes Go.WideShapes Go.ChangeAt Go.RowKit Go.Joins

/-- what a channel of a slice of channels is counted as -/
theorem blk_pos {H : Type} : ∀ d : DataW H, 0 < Rows.uptoBulk d := by
  intro d
  cases d
  case lit l => cases l <;> simp [Rows.uptoBulk]
  all_goals simp [Rows.uptoBulk]
theorem blk_len {H : Type} : ∀ l : List (DataW H), l.length ≤ Rows.uptoBulkAll l
  | [] => Nat.zero_le _
  | d :: l => by
    have h1 := blk_pos d
    have h2 := blk_len l
    simp only [Rows.uptoBulkAll, List.length_cons]
    omega
theorem blk_mem {H : Type} {d : DataW H} : ∀ {l : List (DataW H)}, d ∈ l → Rows.uptoBulk d ≤ Rows.uptoBulkAll l
  | x :: l, h => by
    simp only [Rows.uptoBulkAll]
    rcases List.mem_cons.1 h with rfl | h
    · omega
    · have := blk_mem h
      omega
theorem blk_row {H : Type} {ys zs el sp : List (DataW H)} {d : DataW H} (h : DataW.slice ys zs ∈ el) (hk : Rows.uptoBulkAll [d, .slice el sp] ≤ 1048576) : ys.length ≤ 1048576 := by
  have h1 := blk_mem h
  have h2 := blk_len ys
  simp only [Rows.uptoBulkAll, Rows.uptoBulk] at h1 hk
  omega

set_option maxRecDepth 100000 in
theorem digestBytes_lifted (os : Os) (started : os.Started) (H : Type) (enc : TypeId × Value → H) (F : Stop.Interp) :
    ReturnsInHanded {} Tryd.checked os 5 .any ((Rows.OpenSpec.upto Rows.digestBytesSpec).preRow enc Tryd.prog Tryd.f5 Rows.digestBytesUptoRow.domain false Rows.digestBytesUptoRow.laid) (((Rows.OpenSpec.upto Rows.digestBytesSpec).at F).post enc Tryd.prog Tryd.f5 false true false false) := by
  have hx : ∃ places, DataW.whole enc Tryd.prog ((World.doorLaid Tryd.prog 23 os).forCall (fun _ _ => 0) ⟨#[], #[.int .i64 0, .slice none 0 0], []⟩).memory Tryd.f5.params.toList Rows.digestBytesSpec.vars false #[Value.int .i64 0, .slice none 0 0].toList 8 = some ([.lit (.int .i64 0), .nil], [], places) := ⟨[], by kernel_rfl⟩
  obtain ⟨places, hx⟩ := hx
  refine returnsInHanded_of_row (C := Tryd.checked) (s := Rows.OpenSpec.upto Rows.digestBytesSpec) Tryd.own started (by kernel_rfl) Tryd.func5
    (witness_row_atRef (enc := enc) (C := Tryd.checked) false (World.doorLaid Tryd.prog 23 os) #[.int .i64 0, .slice none 0 0] rfl (by kernel_rfl) (by kernel_rfl) (by kernel_rfl)
      (OpenSpec.preRow_of_cond 8 hx (by kernel_rfl) (fun k hk => by cases hk; kernel_rfl) (by kernel_rfl) (door_met os _))) ?_
  intro W base args ds gs before hval0 hW _ hcond hsz hL _ _
  have hval : ∀ (j : Nat) t v, Tryd.f5.params[j]? = some t → args[j]? = some v → Value.okWide Tryd.prog W .any base t v := hval0
  have hW' := hW
  obtain ⟨p, q, hA0, hV, rfl, hfz, hnd⟩ := hW
  have hA : DataW.TrodAll enc Tryd.prog W 0 (fun _ => true) true Tryd.f5.params.toList args.toList ds p := hA0
  rw [Tryd.params5] at hA hval
  obtain ⟨v0, vs0, d0, ds0, p0, q0, hargs, rfl, rfl, h0, r0⟩ := trodAll_cons hA
  obtain ⟨v1, vs1, d1, ds1, p1, q1, rfl, rfl, rfl, h1, r1⟩ := trodAll_cons r0
  obtain ⟨rfl, rfl, rfl⟩ := trodAll_nil r1
  obtain rfl : args = #[v0, v1] := by cases args; simp_all
  obtain ⟨rfl, rfl⟩ := trodVars_none hV
  have hsz' : (DataW.weightsEach Tryd.prog (Tryd.f5.params.toList ++ Rows.digestBytesSpec.plain.varTypes Tryd.prog) ([d0, d1] ++ [])).all (· ≤ reachBytes) = true := hsz
  rw [Tryd.params5] at hsz'
  have hk : Rows.uptoBulkAll [d0, d1] ≤ 1048576 := of_decide_eq_true (hcond _ rfl)
  have k0 := h0
  have lt0 : ∀ x ∈ p0, x.block < W.heap.size := by obtain ⟨m, hm⟩ := k0; exact DataW.trod_lt m _ _ _ hm
  obtain ⟨x0, rfl, rfl, rfl, wx0⟩ := open_int Tryd.underlying3 (hval 0 3 v0 rfl rfl) h0
  have k1 := h1
  have lt1 : ∀ x ∈ p1, x.block < W.heap.size := by obtain ⟨m, hm⟩ := k1; exact DataW.trod_lt m _ _ _ hm
  obtain ⟨a1, len1, cap1, rfl⟩ := okWide_slice Tryd.underlying35 (hval 1 35 v1 rfl rfl)
  obtain ⟨xss, hO1, _, hel, hsl⟩ := open_rws hsz' (j := 1) rfl rfl h1
  have hb : (xss.getD 0 []).length ≤ 1048576 := by
    rcases hsl with rfl | ⟨el, sp, rfl⟩
    · simp
    · obtain ⟨hr, hrow⟩ := hel el sp rfl
      by_cases hz : 0 < (xss.getD 0 []).length
      · have hp : 0 < xss.length := by
          rcases Nat.eq_zero_or_pos xss.length with e | e
          · rw [List.eq_nil_of_length_eq_zero e] at hz; simp at hz
          · exact e
        have e0 : xss.getD 0 [] = xss[0] := by rw [List.getD_eq_getElem?_getD, List.getElem?_eq_getElem hp]; rfl
        rw [e0] at hz ⊢
        obtain ⟨ys, zs, e, hl⟩ := hrow 0 hp hz
        have hm : DataW.slice ys zs ∈ el := by
          rw [List.getD_eq_getElem?_getD] at e
          cases h : el[0]? with
          | none => rw [h] at e; cases e
          | some x => rw [h] at e; simp at e; subst e; exact List.mem_of_getElem? h
        rw [← hl]
        exact blk_row hm hk
      · omega
  clear hA0 hval0 hcond
  have HL := of_laid hL
  have hfit : Fits x0 := fits_of_wf wx0
  refine (digestBytes_walk x0 a1 len1 cap1 xss W HL hO1 hb hfit).mono fun e W' ⟨he, ho⟩ => ?_
  subst he
  have bel : Below W.heap.size W W' := ho.below (Nat.le_refl _) (fun _ e => e.elim)
  exact ⟨_, rfl, _, _, _, [], _, [], hW', trodAll_mk1 (shut_bool Tryd.underlying4 _), (trodAll_cons_mk (Below.trod Tryd.laidOut (by kernel_rfl) (of_decide_eq_true (by kernel_rfl)) k0 bel lt0) (trodAll_cons_mk (Below.trod Tryd.laidOut (by kernel_rfl) (of_decide_eq_true (by kernel_rfl)) k1 bel lt1) trodAll_mk0)), rfl, bel.frame _, fun h => by cases h⟩

theorem digestBytes_upto : Rows.DigestBytesUptoSaid :=
  OpenClaim.holds_of_cond 5 Tryd.f5 rfl rfl rfl rfl rfl rfl rfl ⟨rfl, rfl, rfl, rfl, rfl⟩ rfl rfl rfl rfl rfl (by kernel_rfl) Tryd.func5 (by kernel_rfl)
    (of_decide_eq_true (by kernel_rfl)) (by unfold Func.isWrapper; first | (rw [if_pos (by decide +kernel)]; kernel_rfl) | (rw [if_neg (by decide +kernel)]; exact ⟨rfl, rfl⟩))
    (fun os started H enc _ F => by rw [OpenClaim.pre_eq_preRow]; exact digestBytes_lifted os started H enc F)

theorem digestBytes_uptocard : Rows.DigestBytesUptoCardSaid :=
  Claim7.holds_tied_plain_at .later [] _ _ _ _ digestBytes_upto (fun _ h => by cases h) (by kernel_rfl) (fun _ h => by cases h) digestBytesUpto_row_tie rfl ⟨rfl, rfl⟩ (by kernel_rfl) rfl
    (fun f fn hf hfn => by
      obtain rfl : f = 5 := Option.some.inj ((show Tryd.prog.funcNamed "jetsam/jetsamlaw04.DigestBytes" = some 5 by kernel_rfl).symm.trans hf) |>.symm
      obtain rfl : fn = Tryd.f5 := (Option.some.inj (Tryd.func5.symm.trans hfn)).symm
      exact ⟨by kernel_rfl, fun j t ht => by
        rw [Tryd.params5] at ht
        have hm : t ∈ [3, 35] := by simpa using Array.mem_of_getElem? ht
        have hall : ([3, 35].all fun u => !Tryd.prog.wantsStandIn u) = true := by kernel_rfl
        exact (show Tryd.prog.wantsStandIn t = false by simpa using List.all_eq_true.1 hall t hm)⟩)
    (by kernel_rfl)
end Go.Proofs.YtekmebbioalpdaaDoor
