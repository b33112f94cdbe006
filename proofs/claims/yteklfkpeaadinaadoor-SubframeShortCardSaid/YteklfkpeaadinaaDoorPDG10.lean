/-
  The document's answer: Bits, Number.
-/
import Derived.Test.YteklfkpeaadinaaDoorPDG09
import Derived.Deep.AppendLies
import Derived.Laws.AppendOwnNone
namespace Go.Proofs.YteklfkpeaadinaaDoor
open Go.RowKit


end Go.Proofs.YteklfkpeaadinaaDoor
namespace Go.Proofs.YteklfkpeaadinaaDoor
open Go.RowKit

end Go.Proofs.YteklfkpeaadinaaDoor
namespace Go.Proofs.YteklfkpeaadinaaDoor
open Go.RowKit

end Go.Proofs.YteklfkpeaadinaaDoor
namespace Go.Proofs.YteklfkpeaadinaaDoor
open Go.RowKit

end Go.Proofs.YteklfkpeaadinaaDoor
namespace Go.Proofs.YteklfkpeaadinaaDoor
open Go.RowKit

end Go.Proofs.YteklfkpeaadinaaDoor
namespace Go.Proofs.YteklfkpeaadinaaDoor
open Go.RowKit

/-- may a residual be written by a parameter -/
def okR (p wd x : Int) : Prop := isR x ∧ if p = -1 then fd x < 2 ^ wd.toNat else fd x / 2 ^ p.toNat ≤ 65536
theorem may_ok (p wd : Int) (xs : List Int) (h : 0 < xs.length) (hR : ∀ x ∈ xs, isR x) : mayP p wd (xs.map fd) = true ↔ ∀ x ∈ xs, okR p wd x := by
  obtain ⟨y, hy, hm⟩ := List.mem_map.1 (mxN_mem (ns := xs.map fd) (by simpa using h))
  have hle : ∀ x ∈ xs, fd x ≤ mxN (xs.map fd) := fun x hx => mxN_le _ (List.mem_map_of_mem hx)
  unfold mayP okR
  by_cases hp : p = -1
  · simp only [if_pos hp, decide_eq_true_eq]
    exact ⟨fun g x hx => ⟨hR x hx, Nat.lt_of_le_of_lt (hle x hx) g⟩, fun g => by rw [← hm]; exact (g y hy).2⟩
  · simp only [if_neg hp, decide_eq_true_eq]
    exact ⟨fun g x hx => ⟨hR x hx, Nat.le_trans (Nat.div_le_div_right (hle x hx)) g⟩, fun g => by rw [← hm]; exact (g y hy).2⟩
theorem pt_all {α : Type} (S s : Nat) (l : List α) (hS : s < S) (k : Nat) : (List.range k).flatMap (pt S s l) = l.take (frm S s k) := by
  induction k with
  | zero => simp [frm_zero]
  | succ k ih =>
    rw [List.range_succ, List.flatMap_append, List.flatMap_singleton, ih]
    unfold pt
    have h := (frm_step S s k hS).1
    generalize frm S s k = a at *
    generalize frm S s (k + 1) = b at *
    obtain ⟨d, rfl⟩ : ∃ d, b = a + d := ⟨b - a, by omega⟩
    rw [Nat.add_sub_cancel_left, List.take_add]
theorem pt_mem {α : Type} (S s P : Nat) (l : List α) (hS : s < S) (hn : P * S = l.length + s) {x : α} (hx : x ∈ l) : ∃ k, k < P ∧ x ∈ pt S s l k := by
  have h := pt_all S s l hS P
  have e : frm S s P = l.length := by unfold frm; omega
  rw [e, List.take_length] at h
  rw [← h] at hx
  obtain ⟨k, hk, hx⟩ := List.mem_flatMap.1 hx
  exact ⟨k, List.mem_range.1 hk, hx⟩
theorem pt_in {α : Type} (S s : Nat) (l : List α) (k : Nat) {x : α} (hx : x ∈ pt S s l k) : x ∈ l := List.mem_of_mem_drop (List.mem_of_mem_take hx)
theorem pt_map {α β : Type} (S s : Nat) (l : List α) (k : Nat) (f : α → β) : pt S s (l.map f) k = (pt S s l k).map f := by unfold pt; rw [List.map_take, List.map_drop]
/-- a block may be written just where each residual may -/
theorem ok_all (S s P : Nat) (ps bs l : List Int) (hS : s < S) (hn : P * S = l.length + s) :
    ((∀ x ∈ l, isR x) ∧ mayAll S s P ps bs (l.map fd)) ↔ ∀ k, k < P → ∀ x ∈ pt S s l k, okR (ps.getD k 0) (bs.getD k 0) x := by
  constructor
  · rintro ⟨hR, hm⟩ k hk x hx
    have h1 := hm k hk
    rw [pt_map] at h1
    exact (may_ok _ _ _ (List.length_pos_of_mem hx) (fun y hy => hR y (pt_in S s l k hy))).1 h1 x hx
  · intro h
    refine ⟨fun x hx => ?_, fun k hk => ?_⟩
    · obtain ⟨k, hk, hx⟩ := pt_mem S s P l hS hn hx
      exact (h k hk x hx).1
    · rw [pt_map]
      have hl := pt_len S s P l k hS hk hn
      have h2 := (frm_step S s k hS).1
      exact (may_ok _ _ _ (by omega) (fun y hy => (h k hk y hy).1)).2 (h k hk)
end Go.Proofs.YteklfkpeaadinaaDoor
namespace Go.Proofs.YteklfkpeaadinaaDoor
open Go.RowKit

end Go.Proofs.YteklfkpeaadinaaDoor
