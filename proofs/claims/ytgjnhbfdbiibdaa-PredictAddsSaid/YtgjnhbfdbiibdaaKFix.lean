/-
  Fixed; magnitude.
-/
import Derived.Test.YtgjnhbfdbiibdaaKRes
namespace Go.Proofs.Ytgjnhbfdbiibdaa
open Go.RowKit

/-- the coefficients of a fixed order -/
def fx : Nat → List Int
  | 0 => []
  | 1 => [1]
  | 2 => [2, -1]
  | 3 => [3, -3, 1]
  | _ => [4, -6, 4, -1]
/-- what Fixed answers -/
def FixR (w : World) (k : Nat) (e : Ending) (w' : World) : Prop := (∃ A c, e = .returned (.tuple #[linV 4 0 (.slice A k c), iv 0]) ∧ ISrc w' (.slice A k c) (fx k)) ∧ Only Nix w w'

theorem box_new' (W : World) (b : Nat) (t : TypeId) (cs : Array Value) (h : W.heap.size = b) : Box (W.alloc (.cells cs t)) b t cs := by
  subst h
  exact Box.new W t cs
set_option maxHeartbeats 2000000 in
theorem fixed_0 (w : World) : Calls Try.prog 17 #[iv 0] w fun e w' => FixR w 0 e w' := by
  go_enter Try.func17, Try.ntmps17
  go_wp2
  refine bodyPost_ret (v := .tuple #[linV 4 0 (.slice (some ⟨w.heap.size + 1, 0, none⟩) 0 0), iv 0]) ?_ rfl ?_
  · simp [results, Try.f17, go_sem]
  · refine ⟨⟨_, _, rfl, ?_⟩, ?_⟩
    · refine ISrc.of_box (t := 3) ?_ rfl (by decide) (by decide) (by decide)
      refine Box.alloc ?_ _
      refine Box.alloc ?_ _
      refine Box.alloc ?_ _
      refine Box.alloc ?_ _
      refine Box.alloc ?_ _
      exact box_new' _ _ _ _ (by simp)
    · repeat' first | exact Only.refl _ _ | refine Only.alloc ?_ _
set_option maxHeartbeats 2000000 in
theorem fixed_1 (w : World) : Calls Try.prog 17 #[iv 1] w fun e w' => FixR w 1 e w' := by
  go_enter Try.func17, Try.ntmps17
  go_wp2
  refine bodyPost_ret (v := .tuple #[linV 4 0 (.slice (some ⟨w.heap.size + 1 + 1, 0, none⟩) 1 1), iv 0]) ?_ rfl ?_
  · simp [results, Try.f17, go_sem]
  · refine ⟨⟨_, _, rfl, ?_⟩, ?_⟩
    · refine ISrc.of_box (t := 3) ?_ rfl (by decide) (by decide) (by decide)
      refine Box.alloc ?_ _
      refine Box.alloc ?_ _
      refine Box.alloc ?_ _
      refine Box.alloc ?_ _
      exact box_new' _ _ _ _ (by simp)
    · repeat' first | exact Only.refl _ _ | refine Only.alloc ?_ _
set_option maxHeartbeats 2000000 in
theorem fixed_2 (w : World) : Calls Try.prog 17 #[iv 2] w fun e w' => FixR w 2 e w' := by
  go_enter Try.func17, Try.ntmps17
  go_wp2
  refine bodyPost_ret (v := .tuple #[linV 4 0 (.slice (some ⟨w.heap.size + 1 + 1 + 1, 0, none⟩) 2 2), iv 0]) ?_ rfl ?_
  · simp [results, Try.f17, go_sem]
  · refine ⟨⟨_, _, rfl, ?_⟩, ?_⟩
    · refine ISrc.of_box (t := 3) ?_ rfl (by decide) (by decide) (by decide)
      refine Box.alloc ?_ _
      refine Box.alloc ?_ _
      refine Box.alloc ?_ _
      exact box_new' _ _ _ _ (by simp)
    · repeat' first | exact Only.refl _ _ | refine Only.alloc ?_ _
set_option maxHeartbeats 2000000 in
theorem fixed_3 (w : World) : Calls Try.prog 17 #[iv 3] w fun e w' => FixR w 3 e w' := by
  go_enter Try.func17, Try.ntmps17
  go_wp2
  refine bodyPost_ret (v := .tuple #[linV 4 0 (.slice (some ⟨w.heap.size + 1 + 1 + 1 + 1, 0, none⟩) 3 3), iv 0]) ?_ rfl ?_
  · simp [results, Try.f17, go_sem]
  · refine ⟨⟨_, _, rfl, ?_⟩, ?_⟩
    · refine ISrc.of_box (t := 3) ?_ rfl (by decide) (by decide) (by decide)
      refine Box.alloc ?_ _
      refine Box.alloc ?_ _
      exact box_new' _ _ _ _ (by simp)
    · repeat' first | exact Only.refl _ _ | refine Only.alloc ?_ _
set_option maxHeartbeats 2000000 in
theorem fixed_4 (w : World) : Calls Try.prog 17 #[iv 4] w fun e w' => FixR w 4 e w' := by
  go_enter Try.func17, Try.ntmps17
  go_wp2
  refine bodyPost_ret (v := .tuple #[linV 4 0 (.slice (some ⟨w.heap.size + 1 + 1 + 1 + 1 + 1, 0, none⟩) 4 4), iv 0]) ?_ rfl ?_
  · simp [results, Try.f17, go_sem]
  · refine ⟨⟨_, _, rfl, ?_⟩, ?_⟩
    · refine ISrc.of_box (t := 3) ?_ rfl (by decide) (by decide) (by decide)
      refine Box.alloc ?_ _
      exact box_new' _ _ _ _ (by simp)
    · repeat' first | exact Only.refl _ _ | refine Only.alloc ?_ _
theorem fixed_any (w : World) (k : Nat) (hk : k ≤ 4) : Calls Try.prog 17 #[iv k] w fun e w' => FixR w k e w' := by
  match k, hk with
  | 0, _ => exact fixed_0 w
  | 1, _ => exact fixed_1 w
  | 2, _ => exact fixed_2 w
  | 3, _ => exact fixed_3 w
  | 4, _ => exact fixed_4 w
theorem fx_ok (k : Nat) (hk : k ≤ 4) : okL 4 0 (fx k) := by
  match k, hk with
  | 0, _ => decide
  | 1, _ => decide
  | 2, _ => decide
  | 3, _ => decide
  | 4, _ => decide
theorem fx_len (k : Nat) (hk : k ≤ 4) : (fx k).length = k := by
  match k, hk with
  | 0, _ => rfl
  | 1, _ => rfl
  | 2, _ => rfl
  | 3, _ => rfl
  | 4, _ => rfl

/-- residuals without their signs, in all -/
def mg (ds : List Int) : Nat := (ds.map Int.natAbs).sum
theorem mg_snoc (ds : List Int) (d : Int) : mg (ds ++ [d]) = mg ds + d.natAbs := by simp [mg]
theorem mg_bound (ds : List Int) (h : ∀ d ∈ ds, -4503599627370496 ≤ d ∧ d ≤ 4503599627370496) : mg ds ≤ 4503599627370496 * ds.length := by
  induction ds with
  | nil => simp [mg]
  | cons d ds ih =>
    have h1 := ih (fun x hx => h x (List.mem_cons_of_mem _ hx))
    have h2 := h d (List.mem_cons_self ..)
    unfold mg at h1 ⊢
    rw [List.map_cons, List.sum_cons, List.length_cons]
    omega
set_option maxHeartbeats 1000000 in
theorem magnitude_any {w : World} (A : Option Addr) (n c : Nat) (ds : List Int) (hd : ISrc w (.slice A n c) ds) (hn : n ≤ 1000) (hb : ∀ d ∈ ds, -4503599627370496 ≤ d ∧ d ≤ 4503599627370496) :
    Calls Try.prog 25 #[.slice A n c] w fun e w' => e = .returned (.int .u64 (mg ds : Nat)) ∧ w = w' := by
  have hl := hd.len
  have HD := Lib.hid hd
  have HL := Lib.hid hl
  have HB := Lib.hid hb
  clear hd hl hb
  go_enter Try.func25, Try.ntmps25
  go_wp2
  go_loopw [3, 8] (fun s3 s8 wr => ∃ j : Nat, j ≤ n ∧ s8 = iv j ∧ s3 = .int .u64 (mg (ds.take j) : Nat) ∧ w = wr) (fun _ s8 _ => n - (intOf s8).toNat)
  case atStart => exact ⟨0, Nat.zero_le _, rfl, rfl, rfl⟩
  case round =>
    obtain ⟨j, hj, rfl, rfl, rfl⟩ := hrel
    by_cases hlt : j < n
    · have hltx : j < ds.length := by rw [← HL.out]; exact hlt
      obtain ⟨ad, rfl, hx⟩ := HD.out.at_ hltx
      have hb := HB.out _ (List.getElem_mem hltx)
      have hS := mg_snoc (ds.take j) ds[j]
      rw [← List.take_succ_eq_append_getElem hltx] at hS
      have HS := Lib.hid hS
      have hm := mg_bound (ds.take j) (fun d hd => HB.out d (List.mem_of_mem_take hd))
      have hml : (ds.take j).length ≤ 1000 := by rw [List.length_take]; omega
      have hm2 : mg (ds.take j) ≤ 4503599627370496000 := by omega
      have hlti : (j : Int) < (n : Int) := by omega
      generalize ds[j] = d at *
      generalize mg (ds.take j) = M at *
      have hmx : max d (-d) = ((d.natAbs : Nat) : Int) := by omega
      obtain ⟨q, hq⟩ : ∃ q, d.natAbs = q := ⟨_, rfl⟩
      rw [hq] at hmx HS
      have hqb : q ≤ 4503599627370496 := by omega
      clear hq hm hml hS hltx
      go_wp2
      go_roundw
      case rel => exact ⟨j + 1, hlt, by go_num, by rw [HS.out]; go_num, trivial⟩
      case measure => simp [intOf]; omega
    · obtain rfl : j = n := by omega
      rw [List.take_of_length_le (by rw [← HL.out]; exact Nat.le_refl _)]
      go_wp2
      go_ret
      exact ⟨rfl, rfl⟩
theorem fixed_no (w : World) (k : Int) (hk : k < 0 ∨ 4 < k) : Calls Try.prog 17 #[iv k] w fun e w' => e = .returned (.tuple #[linV 0 0 (.slice none 0 0), iv 10]) ∧ Only Nix w w' := by
  rcases hk with hk | hk
  · go_enter Try.func17, Try.ntmps17
    go_wp2
    refine bodyPost_ret (v := .tuple #[linV 0 0 (.slice none 0 0), iv 10]) ?_ rfl ⟨rfl, (Only.refl Nix w).alloc _⟩
    simp [results, Try.f17, go_sem]
  · have h0 : ¬ k < 0 := by omega
    go_enter Try.func17, Try.ntmps17
    go_wp2
    refine bodyPost_ret (v := .tuple #[linV 0 0 (.slice none 0 0), iv 10]) ?_ rfl ⟨rfl, (Only.refl Nix w).alloc _⟩
    simp [results, Try.f17, go_sem]
end Go.Proofs.Ytgjnhbfdbiibdaa
