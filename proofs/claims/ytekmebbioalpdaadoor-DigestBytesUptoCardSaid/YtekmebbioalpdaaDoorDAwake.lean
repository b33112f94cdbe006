/-
  The chapter's examples.
-/
import Derived.Test.YtekmebbioalpdaaDoorDEqual
import Derived.Test.YtekmebbioalpdaaDoorDEq16
namespace Go.Proofs.YtekmebbioalpdaaDoor
open Go.RowKit

theorem isrc2 (w : World) (x y : Int) (hx : -9223372036854775808 ≤ x ∧ x ≤ 9223372036854775807) (hy : -9223372036854775808 ≤ y ∧ y ≤ 9223372036854775807) (t : TypeId) : ISrc (w.alloc (.cells #[.int .i64 x, .int .i64 y] t)) (.slice (some ⟨w.heap.size, 0, none⟩) 2 2) [x, y] := by
  refine ⟨⟨_, 2, rfl, fun j hj => ?_⟩, by simp, fun z hz => ?_⟩
  · match j, hj with
    | 0, _ => exact ⟨_, rfl, by rw [Addr.add_lit]; simp⟩
    | 1, _ => exact ⟨_, rfl, by rw [Addr.add_lit]; simp⟩
  · simp only [List.mem_cons, List.not_mem_nil, or_false] at hz
    rcases hz with rfl | rfl
    · exact hx
    · exact hy
theorem rws2 {w : World} {A B : Option Addr} {n m c d : Nat} {xs ys : List Int} (h : ISrc w (.slice A n c) xs) (h' : ISrc w (.slice B m d) ys) (t : TypeId) : Rws (w.alloc (.cells #[.slice A n c, .slice B m d] t)) (.slice (some ⟨w.heap.size, 0, none⟩) 2 2) [xs, ys] := by
  have ho := (Only.refl Nix w).alloc (.cells #[.slice A n c, .slice B m d] t)
  obtain rfl := h.len
  obtain rfl := h'.len
  refine ⟨⟨_, 2, rfl, fun j hj => ?_⟩, by simp⟩
  match j, hj with
  | 0, _ => exact ⟨_, A, c, rfl, by rw [Addr.add_lit]; simp, h.nix ho⟩
  | 1, _ => exact ⟨_, B, d, rfl, by rw [Addr.add_lit]; simp, h'.nix ho⟩
theorem src8 (w : World) (t : TypeId) : Src (w.alloc (.cells #[.int .u8 1, .int .u8 0, .int .u8 2, .int .u8 0, .int .u8 255, .int .u8 255, .int .u8 3, .int .u8 0] t)) (.slice (some ⟨w.heap.size, 0, none⟩) 8 8) [1, 0, 2, 0, 255, 255, 3, 0] := by
  refine Src.of_cells rfl (fun j hj => ?_) (by simp) (by simp)
  match j, hj with
  | 0, _ => simp [byt]
  | 1, _ => simp [byt]
  | 2, _ => simp [byt]
  | 3, _ => simp [byt]
  | 4, _ => simp [byt]
  | 5, _ => simp [byt]
  | 6, _ => simp [byt]
  | 7, _ => simp [byt]
def exB : List (List Int) := [[1, -1], [2, 3]]
theorem exB_by : byTo 2 exB 2 = [1, 0, 2, 0, 255, 255, 3, 0] := by decide +kernel

set_option maxHeartbeats 2000000 in
theorem awake_any {w : World} (hL : Laid w) : Calls Tryd.prog 8 #[] w fun e w' => e = .returned (.bool true) ∧ Only Nix w w' := by
  have HS := Lib.hid (sum_any hL none 0 0 [] (Lists.nil w) (by decide))
  rw [List.flatten_nil, md_empty] at HS
  have heq := run_eql_16 [212, 29, 140, 217, 143, 0, 178, 4, 233, 128, 9, 152, 236, 248, 66, 126] rfl
  have Hri : Hid ((Tryd.prog.info? 24).map (·.size) = some (List.map byt [212, 29, 140, 217, 143, 0, 178, 4, 233, 128, 9, 152, 236, 248, 66, 126]).length) := Lib.hid (by kernel_rfl)
  have HM1 := Lib.hid (map_byt_one [212, 29, 140, 217, 143, 0, 178, 4, 233, 128, 9, 152, 236, 248, 66, 126])
  have hlit : (#[.int .u8 212, .int .u8 29, .int .u8 140, .int .u8 217, .int .u8 143, .int .u8 0, .int .u8 178, .int .u8 4, .int .u8 233, .int .u8 128, .int .u8 9, .int .u8 152, .int .u8 236, .int .u8 248, .int .u8 66, .int .u8 126] : Array Value) = (List.map byt [212, 29, 140, 217, 143, 0, 178, 4, 233, 128, 9, 152, 236, 248, 66, 126]).toArray := rfl
  obtain ⟨MB, hMB⟩ : ∃ MB, Hid (List.map byt [212, 29, 140, 217, 143, 0, 178, 4, 233, 128, 9, 152, 236, 248, 66, 126] = MB) := ⟨_, Lib.hid rfl⟩
  have heq2 : ∀ u, (binOp .eql 24 (.agg MB.toArray) (.agg #[.int .u8 212, .int .u8 29, .int .u8 140, .int .u8 217, .int .u8 143, .int .u8 0, .int .u8 178, .int .u8 4, .int .u8 233, .int .u8 128, .int .u8 9, .int .u8 152, .int .u8 236, .int .u8 248, .int .u8 66, .int .u8 126])).run Tryd.prog u = .ok (.bool true) u := by
    intro u
    rw [hlit, ← hMB.out]
    exact heq u
  have Hml : Hid (MB.length = 16) := Lib.hid (by rw [← hMB.out]; rfl)
  rw [hMB.out] at HS Hri HM1
  have HBy : Hid (∀ (u : World) (A : Option Addr), Rws u (.slice A 2 2) exB → Calls Tryd.prog 15 #[.int .i64 12, .slice A 2 2] u fun e w' => ∃ v', e = .returned (.tuple #[v', iv 0]) ∧ w'.ownsRow u.heap.size 5 1 v' (byTo 2 exB 2).length ((byTo 2 exB 2).map byt) ∧ Only Nix u w') := by
    refine Lib.hid (fun u A hx => bytes_yes 12 11 rfl 2 rfl A 2 2 exB hx ⟨by unfold okD; decide, by unfold okC exB; refine ⟨by decide, by decide, ?_⟩; intro j hj; match j, hj with | 0, _ => rfl | 1, _ => rfl⟩ ?_ 2 rfl (by rw [exB_by]; decide))
    intro j hj
    unfold inD
    match j, hj with
    | 0, _ => intro x hx; simp only [exB, List.getElem_cons_zero, List.mem_cons, List.not_mem_nil, or_false] at hx; rcases hx with rfl | rfl <;> decide
    | 1, _ => intro x hx; simp only [exB, List.getElem_cons_succ, List.getElem_cons_zero, List.mem_cons, List.not_mem_nil, or_false] at hx; rcases hx with rfl | rfl <;> decide
  rw [exB_by] at HBy
  clear heq hlit hL
  go_enter Tryd.func8, Tryd.ntmps8
  go_wp2_with fail
  refine (HS.out).mono ?_
  rintro e w1 ⟨rfl, o1⟩
  go_upto_region 2 with (refine wpList_store_arr rfl rfl 24 _ _ rfl w1.heap.size 0 MB rfl rfl ((Box.new _ _ _).there (by rw [Hml.out]; exact Nat.le_refl 16)) Hri.out HM1.out ?_)
  have o2 := (o1.alloc (.cells (List.replicate 16 (Value.int .u8 0)).toArray 24)).setCells (b := w1.heap.size) (.inr o1.size) MB 0
  have hB2 := (Box.new w1 24 (List.replicate 16 (Value.int .u8 0)).toArray).setAll (vs := MB) (by rw [Hml.out]; rfl)
  change Code.wp _ _ _ _ ((w1.alloc (.cells (List.replicate 16 (Value.int .u8 0)).toArray 24)).setCells w1.heap.size 0 MB)
  generalize (w1.alloc (.cells (List.replicate 16 (Value.int .u8 0)).toArray 24)).setCells w1.heap.size 0 MB = W2 at *
  have a2 := (((Only.refl Nix W2).alloc (.cells #[.int .i64 1, .int .i64 (-1)] 3)).alloc (.cells #[.int .i64 2, .int .i64 3] 3)).alloc (.cells #[.slice (some ⟨W2.heap.size, 0, none⟩) 2 2, .slice (some ⟨W2.heap.size + 1, 0, none⟩) 2 2] 39)
  have HB2 := Lib.hid hB2
  clear hB2
  have hRw : Hid (Rws (((W2.alloc (.cells #[.int .i64 1, .int .i64 (-1)] 3)).alloc (.cells #[.int .i64 2, .int .i64 3] 3)).alloc (.cells #[.slice (some ⟨W2.heap.size, 0, none⟩) 2 2, .slice (some ⟨W2.heap.size + 1, 0, none⟩) 2 2] 39)) (.slice (some ⟨W2.heap.size + 1 + 1, 0, none⟩) 2 2) exB) := by
    refine Lib.hid ?_
    have i1 := (isrc2 W2 1 (-1) (by decide) (by decide) 3).nix ((Only.refl Nix _).alloc (.cells #[.int .i64 2, .int .i64 3] 3))
    have i2 := isrc2 (W2.alloc (.cells #[.int .i64 1, .int .i64 (-1)] 3)) 2 3 (by decide) (by decide) 3
    have := rws2 i1 i2 39
    simp only [World.size_alloc] at this
    exact this
  go_wp2_with fail
  refine (HBy.out _ _ hRw.out).mono ?_
  rintro e w3 ⟨v3, rfl, hO3, o3⟩
  have hv3 := owns_src hO3 (by decide) (by decide)
  obtain ⟨g3, c3, rfl, _, _⟩ := owns_none hO3 (by decide)
  have HV3 := Lib.hid hv3
  have HB3 := Lib.hid ((HB2.out.only a2 (fun e => e)).only o3 (fun e => e))
  have Hri2 : Hid ((Tryd.prog.info? 24).map (·.size) = some MB.toArray.size) := Lib.hid (by rw [List.size_toArray]; exact Hri.out)
  have a3 := (Only.refl Nix w3).alloc (.cells #[.int .u8 1, .int .u8 0, .int .u8 2, .int .u8 0, .int .u8 255, .int .u8 255, .int .u8 3, .int .u8 0] 5)
  have HEq := Lib.hid (equal_at (Only.refl Nix _) _ _ 8 8 c3 8 [1, 0, 2, 0, 255, 255, 3, 0] (HV3.out.nix a3) (src8 w3 5))
  clear hO3 hv3
  go_wp2_with (refine wpList_load_row rfl 24 _ rfl w1.heap.size rfl 24 MB.toArray (0, 0) _ HB3.out Tryd.underlying24 rfl Hri2.out ?_)
  refine (HEq.out).mono ?_
  rintro e w4 ⟨rfl, o4⟩
  go_wp2
  go_ret
  exact ⟨rfl, (((o2.trans a2).trans o3).trans a3).trans o4⟩
/-- .. in a world that has gone on -/
theorem aw {w u : World} (hw : Only Nix w u) (hL : Laid u) : Calls Tryd.prog 8 #[] u fun e w' => e = .returned (.bool true) ∧ Only Nix w w' :=
  (awake_any hL).mono fun _ _ hh => ⟨hh.1, hw.trans hh.2⟩
end Go.Proofs.YtekmebbioalpdaaDoor
