/-
  ending, begun, New, Len: walked.
-/
import Derived.Test.YtekmebbioalpdaaDoorDLeast
import Derived.Deep.WholeRow
namespace Go.Proofs.YtekmebbioalpdaaDoor
open Go.RowKit

/-- a new state -/
def stc0 : List Value := [wv 1732584193, wv 4023233417, wv 2562383102, wv 271733878] ++ (List.replicate 64 0).map byt ++ [iv 0]
theorem set_head (c : Nat) : (List.replicate (c + 1) (byt 0)).toArray.setIfInBounds 0 (byt 128) = (byt 128 :: List.replicate c (byt 0)).toArray := by
  rw [List.setIfInBounds_toArray, List.replicate_succ, List.set_cons_zero]
theorem tail_is (n : Nat) : (128 :: List.replicate (zeros n) 0) ++ lf (8 * n) 8 = tail_ n := rfl

set_option maxHeartbeats 1000000 in
theorem ending_any {w : World} (n : Nat) (hn : n < 1000000000000) :
    Calls Tryd.prog 29 #[iv n] w fun e w' => ∃ v', e = .returned v' ∧ w'.ownsRow w.heap.size 5 1 v' (tail_ n).length ((tail_ n).map byt) ∧ Only Nix w w' := by
  obtain ⟨z, hz⟩ : ∃ z, Hid (zeros n = z) := ⟨_, Lib.hid rfl⟩
  have hz64 : z < 64 := by rw [← hz.out]; unfold zeros; omega
  have e1 : ((n : Int) + 1 + 8).tmod 64 = (((n + 1 + 8) % 64 : Nat) : Int) := by rw [Int.tmod_eq_emod_of_nonneg (by omega)]; omega
  have e2 : (64 - (((n + 1 + 8) % 64 : Nat) : Int)).tmod 64 = (z : Int) := by
    rw [Int.tmod_eq_emod_of_nonneg (by omega), ← hz.out]; unfold zeros; omega
  have hy : (n + 1 + 8) % 64 < 64 := Nat.mod_lt _ (by decide)
  generalize (n + 1 + 8) % 64 = y at *
  have hmk : ∀ u, (Instr.makeSlice 22 (.int .i64 (1 + (z : Int))) (.int .i64 (1 + (z : Int) + 8))).run Tryd.prog u = .ok (.slice (some ⟨u.heap.size, 0, none⟩) (1 + z) (1 + z + 8)) (u.alloc (.cells (List.replicate (z + 8 + 1) (byt 0)).toArray 5)) := by
    intro u
    have := run_make_lc (1 + z) (1 + z + 8) (by omega) (by omega) u
    rw [show ((1 + z : Nat) : Int) = 1 + (z : Int) from by omega, show ((1 + z + 8 : Nat) : Int) = 1 + (z : Int) + 8 from by omega, show 1 + z + 8 = z + 8 + 1 from by omega] at this
    rw [this, show 1 + z + 8 = z + 8 + 1 from by omega]
  have hB := Box.new w 5 (List.replicate (z + 8 + 1) (byt 0)).toArray
  have hc : (w.alloc (.cells (List.replicate (z + 8 + 1) (byt 0)).toArray 5)).cell? ⟨w.heap.size, 0, none⟩ = some (.int .u8 0) := (hB.cell 0).trans (by rw [List.getElem?_toArray, List.replicate_succ, List.getElem?_cons_zero]; rfl)
  have hcs : (List.replicate (z + 8 + 1) (byt 0)).toArray[0]? = some (.int .u8 0) := by rw [List.getElem?_toArray, List.replicate_succ, List.getElem?_cons_zero]; rfl
  have hfz := hB.frozen 0
  have hP : Hid ((List.replicate (z + 8 + 1) (byt 0)).toArray.setIfInBounds 0 (.int .u8 128) = (byt 128 :: List.replicate (z + 8) (byt 0)).toArray) := Lib.hid (set_head _)
  generalize (List.replicate (z + 8 + 1) (byt 0)).toArray = CS at *
  have HOw : Hid ((w.alloc (.cells (CS.setIfInBounds 0 (.int .u8 128)) 5)).ownsRow w.heap.size 5 1 (.slice (some ⟨w.heap.size, 0, none⟩) (1 + z) (1 + z + 8)) (1 + z) ((128 :: List.replicate z 0).map byt)) := by
    rw [hP.out]
    refine Lib.hid ⟨by simp; omega, .inr ⟨w.heap.size, 1 + z + 8, _, rfl, Nat.le_refl _, Box.new _ _ _, by omega, by unfold maxLen; omega, by simp; omega, ?_⟩⟩
    rw [Nat.mul_one, show 1 + z = z + 1 from by omega, List.take_succ_cons, List.take_replicate, Nat.min_eq_left (by omega)]
    simp
  go_enter Tryd.func29, Tryd.ntmps29
  go_wp2_with fail
  refine (least_at w.heap.size _ (1 + z) (128 :: List.replicate z 0) HOw.out (8 * n) 8 (8 * (n : Int)) 8 (by omega) rfl (by omega) (by omega) (by omega) (by simp)).mono ?_
  rintro e w2 ⟨v2, rfl, hO2, o2⟩
  have hT := Lib.hid (tail_len n)
  rw [← hz.out] at hO2
  rw [tail_is] at hO2
  have HO2 := Lib.hid hO2
  clear hO2
  go_wp2
  go_ret
  refine ⟨_, rfl, ?_, ?_⟩
  · rw [hT.out]; exact HO2.out
  · exact ((Only.refl Nix w).alloc _).from o2 (Nat.le_refl _)

/-- the cells of a new state -/
def stz : List Value := List.replicate 4 (Value.int .u32 0) ++ List.replicate 64 (Value.int .u8 0) ++ [Value.int .i64 0]
theorem Tryd.info_state : (Tryd.prog.info? 55).map (fun i => (i.zero, i.size)) = some (some (.agg stz.toArray), 69) := by kernel_rfl
set_option maxHeartbeats 1000000 in
theorem begun_any (w : World) : Calls Tryd.prog 22 #[] w fun e w' => e = .returned (.agg (stc0).toArray) ∧ Only Nix w w' := by
  have hz := (zero_of_info Tryd.info_state).1
  have hl : stz.length = 69 := rfl
  have hsi : (Tryd.prog.info? 55).map (·.size) = some stc0.length := by kernel_rfl
  have h1 : ∀ v ∈ stc0, v.oneCell' = true := by
    unfold stc0
    intro v hv
    rcases List.mem_append.1 hv with hv | hv
    · rcases List.mem_append.1 hv with hv | hv
      · simp only [List.mem_cons, List.not_mem_nil, or_false] at hv
        rcases hv with rfl | rfl | rfl | rfl <;> rfl
      · exact map_byt_one _ _ hv
    · rw [List.mem_singleton.1 hv]; rfl
  have H1 := Lib.hid h1
  have Hsi := Lib.hid hsi
  have HB := Lib.hid (Box.new w 55 stz.toArray)
  have hst : (((stz.set 0 (Value.int .u32 1732584193)).set 1 (Value.int .u32 4023233417)).set 2 (Value.int .u32 2562383102)).set 3 (Value.int .u32 271733878) = stc0 := rfl
  clear h1 hsi
  go_enter Tryd.func22, Tryd.ntmps22
  go_wp2_with (refine wpList_store_arr rfl rfl 55 _ _ rfl w.heap.size 0 stc0 rfl rfl (HB.out.there (by exact Nat.le_refl 69)) Hsi.out H1.out ?_)
  have hE := HB.out.setAll (vs := stc0) rfl
  refine bodyPost_ret (results_cell_row rfl _ _ w.heap.size 55 stc0.toArray (0, 0) _ rfl hE Tryd.underlying55 rfl Hsi.out) rfl ⟨rfl, ?_⟩
  exact ((Only.refl Nix w).alloc _).setCells (.inr (Nat.le_refl _)) _ _
end Go.Proofs.YtekmebbioalpdaaDoor
