/-
  words, walked.
-/
import Derived.Test.YtekmebbioalpdaaDoorDClos
import Derived.BigRegion
namespace Go.Proofs.YtekmebbioalpdaaDoor
open Go.RowKit

/-- a word, of the bytes below i alone -/
def pw (p : List Nat) (i k : Nat) : Nat :=
  (if 4 * k < i then p.getD (4 * k) 0 else 0) + 256 * (if 4 * k + 1 < i then p.getD (4 * k + 1) 0 else 0) + 65536 * (if 4 * k + 2 < i then p.getD (4 * k + 2) 0 else 0) + 16777216 * (if 4 * k + 3 < i then p.getD (4 * k + 3) 0 else 0)
def pws (p : List Nat) (i : Nat) : List Nat := (List.range 16).map (pw p i)
theorem pws_all (p : List Nat) : pws p 64 = wds p := by
  unfold pws wds
  refine List.map_congr_left fun k hk => ?_
  have := List.mem_range.1 hk
  unfold pw wd
  rw [if_pos (by omega), if_pos (by omega), if_pos (by omega), if_pos (by omega)]
theorem pws_zero (p : List Nat) : pws p 0 = List.replicate 16 0 := by
  unfold pws
  rw [show List.replicate 16 0 = (List.range 16).map (fun _ => 0) from rfl]
  exact List.map_congr_left fun k _ => by simp [pw]
theorem pw_same (p : List Nat) (i k : Nat) (h : k ≠ i / 4) : pw p (i + 1) k = pw p i k := by
  have e : ∀ j, j < 4 → ((4 * k + j < i + 1) = (4 * k + j < i)) := fun j hj => propext ⟨fun _ => by omega, fun _ => by omega⟩
  have e0 := e 0 (by omega)
  rw [Nat.add_zero] at e0
  unfold pw
  simp only [e0, e 1 (by omega), e 2 (by omega), e 3 (by omega)]
theorem if_lt {j i x : Nat} (h : j < i) : (if j < i then x else 0) = x := if_pos h
theorem if_ge {j i x : Nat} (h : i ≤ j) : (if j < i then x else 0) = 0 := if_neg (by omega)
theorem pw_step (p : List Nat) (i : Nat) : pw p (i + 1) (i / 4) = pw p i (i / 4) + p.getD i 0 * 2 ^ (8 * (i % 4)) := by
  obtain ⟨k, r, hr, rfl⟩ : ∃ k r, r < 4 ∧ i = 4 * k + r := ⟨i / 4, i % 4, Nat.mod_lt _ (by decide), by omega⟩
  rw [show (4 * k + r) / 4 = k from by omega, show (4 * k + r) % 4 = r from by omega]
  obtain rfl | rfl | rfl | rfl : r = 0 ∨ r = 1 ∨ r = 2 ∨ r = 3 := by omega
  all_goals (unfold pw; simp (disch := omega) only [if_lt, if_ge]; try omega)
  · rw [Nat.add_zero (4 * k)]; omega
theorem getD_lt {p : List Nat} (h : ∀ x ∈ p, x < 256) (j : Nat) : p.getD j 0 < 256 := by
  rw [List.getD_eq_getElem?_getD]
  cases hj : p[j]? with
  | none => simp
  | some x => exact h x (List.mem_of_getElem? hj)
theorem pw_lt {p : List Nat} (h : ∀ x ∈ p, x < 256) (i : Nat) : pw p i (i / 4) < 2 ^ (8 * (i % 4)) := by
  obtain ⟨k, r, hr, rfl⟩ : ∃ k r, r < 4 ∧ i = 4 * k + r := ⟨i / 4, i % 4, Nat.mod_lt _ (by decide), by omega⟩
  rw [show (4 * k + r) / 4 = k from by omega, show (4 * k + r) % 4 = r from by omega]
  have h0 := getD_lt h (4 * k)
  have h1 := getD_lt h (4 * k + 1)
  have h2 := getD_lt h (4 * k + 2)
  obtain rfl | rfl | rfl | rfl : r = 0 ∨ r = 1 ∨ r = 2 ∨ r = 3 := by omega
  all_goals (unfold pw; simp (disch := omega) only [if_lt, if_ge]; omega)
theorem pws_at (p : List Nat) (i k : Nat) (hk : k < 16) : (pws p i)[k]? = some (pw p i k) := by
  unfold pws
  rw [List.getElem?_map, List.getElem?_range hk]
  rfl
theorem pws_step (p : List Nat) (i : Nat) (hi : i < 64) : (pws p i).set (i / 4) (pw p i (i / 4) + p.getD i 0 * 2 ^ (8 * (i % 4))) = pws p (i + 1) := by
  apply List.ext_getElem?
  intro k
  rw [List.getElem?_set]
  have hl : (pws p i).length = 16 := by simp [pws]
  have hl1 : (pws p (i + 1)).length = 16 := by simp [pws]
  by_cases hk : k < 16
  · by_cases e : i / 4 = k
    · subst e
      rw [if_pos rfl, if_pos (by omega), pws_at _ _ _ hk, pw_step]
    · rw [if_neg e, pws_at _ _ _ hk, pws_at _ _ _ hk, pw_same _ _ _ (fun h => e h.symm)]
  · rw [if_neg (by omega), List.getElem?_eq_none (by omega), List.getElem?_eq_none (by omega)]
/-- one byte more, as the code has it -/
theorem word_or (a x m : Nat) (ha : a < 2 ^ m) (hx : x < 256) (hm : m ≤ 24) : bits .or .u32 (a : Int) ((x : Int) * 2 ^ m % 4294967296) = ((a + x * 2 ^ m : Nat) : Int) := by
  have h1 : 2 ^ m ≤ 2 ^ 24 := Nat.pow_le_pow_right (by decide) hm
  have h2 : x * 2 ^ m ≤ 255 * 2 ^ 24 := Nat.mul_le_mul (by omega) h1
  have e : (x : Int) * 2 ^ m % 4294967296 = ((x * 2 ^ m : Nat) : Int) := by
    rw [pow_cast, ← Int.natCast_mul]
    generalize x * 2 ^ m = P at *
    omega
  rw [e, u32_or_nat _ _ (by omega) (by omega), Nat.or_comm, nat_join m (x * 2 ^ m) a (Nat.mul_mod_left _ _) ha, Nat.add_comm]

def WordsP (w : World) (p : List Nat) (s10 : Value) (wr : World) : Prop :=
  ∃ i : Nat, i ≤ 64 ∧ s10 = iv i ∧ Box wr (w.heap.size + 1) 66 ((pws p i).map wv).toArray ∧ Box wr w.heap.size 66 (List.replicate 16 (wv 0)).toArray ∧ Only Nix w wr

theorem rep16 : (#[Value.int .u32 0, .int .u32 0, .int .u32 0, .int .u32 0, .int .u32 0, .int .u32 0, .int .u32 0, .int .u32 0, .int .u32 0, .int .u32 0, .int .u32 0, .int .u32 0, .int .u32 0, .int .u32 0, .int .u32 0, .int .u32 0] : Array Value) = (List.replicate 16 (wv 0)).toArray := rfl
theorem pws0 (p : List Nat) : (pws p 0).map wv = List.replicate 16 (wv 0) := by rw [pws_zero]; rfl
theorem pws_len (p : List Nat) (i : Nat) : ((pws p i).map wv).length = 16 := by simp [pws]

set_option maxHeartbeats 1000000 in
theorem words_any {w : World} (b : Nat) (p : List Nat) (hp : p.length = 64) (hlt : ∀ x ∈ p, x < 256) (h : w.rangeAt b 4 (p.map byt)) :
    Calls Tryd.prog 30 #[.pointer (some ⟨b, 0, none⟩)] w fun e w' => e = .returned (.agg ((wds p).map wv).toArray) ∧ Only Nix w w' := by
  have hi : (Tryd.prog.info? 53).map (·.size) = some (p.map byt).length := by rw [List.length_map, hp]; kernel_rfl
  have Hi := Lib.hid hi
  have Hr := Lib.hid h
  have Hp := Lib.hid hp
  have Hlt := Lib.hid hlt
  clear hi h hp hlt
  generalize hB : p.map byt = B at *
  have HB := Lib.hid hB
  clear hB
  go_enter Tryd.func30, Tryd.ntmps30
  go_wp2_with (refine wpList_load_mid rfl 53 _ rfl b 4 rfl B _ (World.rangeAt_alloc (World.rangeAt_alloc Hr.out _) _) Tryd.underlying53 rfl Hi.out ?_)
  go_loopw [10] (fun s10 wr => WordsP w p s10 wr) (fun s10 _ => 64 - (intOf s10).toNat)
  case atStart =>
    refine ⟨0, by omega, rfl, ?_, ?_, ((Only.refl _ _).alloc _).alloc _⟩
    · rw [pws0, rep16]
      have := Box.new (w.alloc (.cells (List.replicate 16 (wv 0)).toArray 66)) 66 (List.replicate 16 (wv 0)).toArray
      simpa using this
    · rw [rep16]
      exact (Box.new _ _ _).alloc _
  case round =>
    obtain ⟨i, hi, rfl, hM, hR, ho⟩ := hrel
    by_cases hlt : i < 64
    · obtain ⟨x, hx⟩ : ∃ x, p[i]? = some x := ⟨_, List.getElem?_eq_getElem (by rw [Hp.out]; exact hlt)⟩
      have hx256 := Hlt.out x (List.mem_of_getElem? hx)
      have hBx : B[i]? = some (.int .u8 (x : Int)) := by rw [← HB.out, List.getElem?_map, hx]; rfl
      have hcell := hM.cell (i / 4)
      have hfr := hM.frozen (i / 4)
      have hcx : ((pws p i).map wv).toArray[i / 4]? = some (.int .u32 (pw p i (i / 4) : Nat)) := by
        rw [List.getElem?_toArray, List.getElem?_map, pws_at _ _ _ (by omega)]; rfl
      rw [hcx] at hcell
      have HP := Lib.hid (pws_step p i hlt)
      have hpx : p.getD i 0 = x := by rw [List.getD_eq_getElem?_getD, hx]; rfl
      rw [hpx] at HP
      have HO := Lib.hid (word_or (pw p i (i / 4)) x (8 * (i % 4)) (pw_lt Hlt.out i) hx256 (by omega))
      have HM := Lib.hid hM
      have HR := Lib.hid hR
      clear hM hR hcx hpx hx
      have hlt2 : (i : Int) < 64 := by omega
      have hix := run_index_arr (P := Tryd.prog) Tryd.underlying53 Tryd.underlying5 rfl (by kernel_rfl) hlt hBx
      go_wp2
      go_region
      go_wp2
      go_roundw
      case rel =>
        refine ⟨i + 1, by omega, by go_num, ?_, ?_, ?_⟩
        · rw [← HP.out, HO.out]
          have := HM.out.put (i / 4) (wv (pw p i (i / 4) + x * 2 ^ (8 * (i % 4))))
          rw [List.setIfInBounds_toArray, ← List.map_set] at this
          exact this.drew
        · exact (HR.out.off (by simp) _).drew
        · exact (ho.setCell (.inr (by simp)) _).drew
      case measure => simp [intOf]; omega
    · obtain rfl : i = 64 := by omega
      rw [pws_all] at hM
      have hi2 : (Tryd.prog.info? 66).map (·.size) = some ((wds p).map wv).toArray.size := by
        rw [List.size_toArray, List.length_map]; unfold wds; rw [List.length_map, List.length_range]; kernel_rfl
      have Hi2 := Lib.hid hi2
      have hl : (List.replicate 16 (wv 0)).length = ((wds p).map wv).length := by simp [wds]
      have Hl := Lib.hid hl
      have HM := Lib.hid hM
      have HR := Lib.hid hR
      clear hi2 hl hM hR
      generalize hW : (wds p).map wv = W at *
      have HW1 : Hid (∀ v ∈ W, v.oneCell' = true) := by
        refine Lib.hid ?_
        rw [← hW]; exact map_wv_one _
      have HW := Lib.hid hW
      clear hW
      go_wp2_with first
        | refine wpList_load_row rfl 66 _ rfl (w.heap.size + 1) rfl 66 W.toArray (0, 0) _ HM.out Tryd.underlying66 rfl Hi2.out ?_
        | refine wpList_store_mid rfl 66 _ _ rfl w.heap.size 0 W.toArray rfl rfl (HR.out.there (by rw [List.size_toArray, List.size_toArray, Hl.out]; omega)) Hi2.out (all_oneCell_toArray HW1.out) ?_
      have hE := HR.out.setAll (vs := W) Hl.out
      refine bodyPost_ret (results_cell_row rfl _ _ w.heap.size 66 W.toArray (0, 0) _ rfl hE Tryd.underlying66 rfl Hi2.out) rfl ⟨by rw [HW.out], ?_⟩
      exact ho.setCells (.inr (Nat.le_refl _)) _ _
end Go.Proofs.YtekmebbioalpdaaDoor
