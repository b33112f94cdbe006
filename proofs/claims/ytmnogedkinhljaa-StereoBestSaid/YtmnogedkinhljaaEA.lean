/-
  Slices of numbers: what they hold; the statements' Ints.
-/
import Derived.Test.YtmnogedkinhljaaMem
import Derived.Test.YtmnogedkinhljaaInts
import Derived.Outline
namespace Go.Proofs.Ytmnogedkinhljaa
open Go.RowKit

/-- an int -/
abbrev iv (n : Int) : Value := .int .i64 n
/-- two numbers -/
abbrev two (a b : Int) : Ending := .returned (.tuple #[.int .i64 a, .int .i64 b])
theorem cell_keep {w w' : World} (ho : Only Nix w w') {a : Addr} {u : Value} (h : w.cell? a = some u) : w'.cell? a = some u := by
  rw [World.cell?_of_block (w := w) (ho.block a.block (World.block_lt_of_cell? w a h) (fun e => e))]
  exact h
theorem cell_only {F : Nat → Prop} {w w' : World} (ho : Only F w w') {a : Addr} {u : Value} (h : w.cell? a = some u) (hF : ¬ F a.block) : w'.cell? a = some u := by
  rw [World.cell?_of_block (w := w) (ho.block a.block (World.block_lt_of_cell? w a h) hF)]
  exact h
theorem add_block (ad : Addr) (j : Nat) : (ad.add j).block = ad.block := by unfold Addr.add; split <;> rfl
theorem add_add (ad : Addr) (j k : Nat) : (ad.add j).add k = ad.add (j + k) := by
  unfold Addr.add
  split <;> split <;> simp_all [Nat.add_assoc]

/-- The slice v0 holds these numbers. -/
structure ISrc (w : World) (v0 : Value) (xs : List Int) : Prop where
  form : ∃ A c, v0 = .slice A xs.length c ∧ xs.length ≤ c ∧ ∀ j, (hj : j < xs.length) → ∃ ad, A = some ad ∧ w.cell? (ad.add j) = some (iv xs[j])
  small : xs.length ≤ 140737488355328
  fits : ∀ x ∈ xs, -9223372036854775808 ≤ x ∧ x ≤ 9223372036854775807
theorem ISrc.only {F : Nat → Prop} {w w' : World} {v : Value} {xs : List Int} (h : ISrc w v xs) (ho : Only F w w') (hF : ∀ i, i < w.heap.size → F i → ∀ ad n c, v = .slice (some ad) n c → 0 < n → ad.block ≠ i) : ISrc w' v xs := by
  obtain ⟨A, c, hv, hcap, hc⟩ := h.form
  refine ⟨⟨A, c, hv, hcap, fun j hj => ?_⟩, h.small, h.fits⟩
  obtain ⟨ad, hA, hx⟩ := hc j hj
  refine ⟨ad, hA, cell_only ho hx (fun e => ?_)⟩
  subst hA
  exact hF _ (World.block_lt_of_cell? w _ hx) e ad _ c hv (by omega) (add_block ad j).symm
theorem ISrc.nix {w w' : World} {v : Value} {xs : List Int} (h : ISrc w v xs) (ho : Only Nix w w') : ISrc w' v xs := h.only ho (fun _ _ e => e.elim)
theorem ISrc.at_ {w : World} {A : Option Addr} {n c : Nat} {xs : List Int} (h : ISrc w (.slice A n c) xs) {k : Nat} (hk : k < xs.length) : ∃ ad, A = some ad ∧ w.cell? (ad.add k) = some (iv xs[k]) := by
  obtain ⟨A', c', hv, _, hc⟩ := h.form
  injection hv with e1 _ _
  subst e1
  exact hc k hk
theorem ISrc.len {w : World} {A : Option Addr} {n c : Nat} {xs : List Int} (h : ISrc w (.slice A n c) xs) : n = xs.length := by
  obtain ⟨A', c', hv, _⟩ := h.form
  injection hv
theorem ISrc.cap {w : World} {A : Option Addr} {n c : Nat} {xs : List Int} (h : ISrc w (.slice A n c) xs) : xs.length ≤ c := by
  obtain ⟨A', c', hv, h2, _⟩ := h.form
  injection hv with _ _ e3
  omega
theorem ISrc.slice {w : World} {v : Value} {xs : List Int} (h : ISrc w v xs) : ∃ A c, v = .slice A xs.length c := by
  obtain ⟨A, c, hv, _⟩ := h.form
  exact ⟨A, c, hv⟩
/-- a piece of it -/
theorem ISrc.sub {w : World} {ad : Addr} {n c : Nat} {xs : List Int} (h : ISrc w (.slice (some ad) n c) xs) (i m : Nat) (hi : i + m ≤ xs.length) (c' : Nat) (hc : m ≤ c') : ISrc w (.slice (some (ad.add i)) m c') ((xs.drop i).take m) := by
  have hl : ((xs.drop i).take m).length = m := by simp; omega
  refine ⟨⟨some (ad.add i), c', by rw [hl], by omega, fun j hj => ?_⟩, by have := h.small; omega, fun x hx => h.fits x (List.mem_of_mem_drop (List.mem_of_mem_take hx))⟩
  have hj2 : i + j < xs.length := by omega
  obtain ⟨ad', e, hx⟩ := h.at_ hj2
  injection e with e
  subst e
  refine ⟨_, rfl, ?_⟩
  rw [add_add, hx]
  simp
/-- what lies in a block -/
theorem ISrc.of_box {w : World} {g c n : Nat} {xs : List Int} {t : TypeId} (h : Box w g t (xs.map iv).toArray) (hn : xs.length = n) (hc : n ≤ c) (hs : xs.length ≤ 140737488355328) (hf : ∀ x ∈ xs, -9223372036854775808 ≤ x ∧ x ≤ 9223372036854775807) : ISrc w (.slice (some ⟨g, 0, none⟩) n c) xs := by
  refine ⟨⟨_, c, by rw [hn], by omega, fun j hj => ⟨_, rfl, ?_⟩⟩, hs, hf⟩
  rw [Addr.add_lit, Nat.zero_add, h.cell]
  simp [hj]

theorem ISrc.same {w w' : World} {v : Value} {xs : List Int} (h : ISrc w v xs) (hs : ∀ ad n c, v = .slice (some ad) n c → 0 < n → w'.heap[ad.block]? = w.heap[ad.block]?) : ISrc w' v xs := by
  obtain ⟨A, c, hv, hcap, hc⟩ := h.form
  refine ⟨⟨A, c, hv, hcap, fun j hj => ?_⟩, h.small, h.fits⟩
  obtain ⟨ad, hA, hx⟩ := hc j hj
  refine ⟨ad, hA, ?_⟩
  subst hA
  rw [World.cell?_of_block (w := w) (by rw [add_block]; exact hs ad _ c hv (by omega))]
  exact hx
theorem ISrc.blk {w : World} {v : Value} {xs : List Int} (h : ISrc w v xs) : ∀ ad n c, v = .slice (some ad) n c → 0 < n → ad.block < w.heap.size := by
  intro ad n c e hn
  subst e
  have hl := h.len
  obtain ⟨ad', e, hx⟩ := h.at_ (k := 0) (by omega)
  injection e with e
  subst e
  have := World.block_lt_of_cell? w _ hx
  rwa [add_block] at this
theorem isrc_lit (w : World) (xs : List Int) (hn : xs.length ≤ 100) (hf : ∀ x ∈ xs, -9223372036854775808 ≤ x ∧ x ≤ 9223372036854775807) : ISrc (w.alloc (.cells (xs.map iv).toArray 3)) (.slice (some ⟨w.heap.size, 0, none⟩) xs.length xs.length) xs :=
  ISrc.of_box (Box.new w 3 (xs.map iv).toArray) rfl (Nat.le_refl _) (by omega) hf

def SameRel (w : World) (n : Nat) (s5 : Value) (wr : World) : Prop := ∃ k m : Nat, k ≤ n ∧ s5 = .int .i64 (k : Int) ∧ wr = w.drewN m

set_option maxHeartbeats 400000 in
theorem ints_yes {w : World} {v1 v2 : Value} {xs : List Int} (h1 : ISrc w v1 xs) (h2 : ISrc w v2 xs) :
    Calls Try.prog 16 #[v1, v2] w fun e w' => e = .returned (.bool true) ∧ ∃ m, w' = w.drewN m := by
  have hsm := h1.small
  obtain ⟨A1, c1, hv1⟩ := h1.slice
  obtain ⟨A2, c2, hv2⟩ := h2.slice
  subst hv1
  subst hv2
  go_enter Try.func16, Try.ntmps16
  go_wp2
  go_loopw [5] (fun s5 wr => SameRel w xs.length s5 wr) (fun s5 _ => xs.length - (intOf s5).toNat)
  case atStart => exact ⟨0, 0, Nat.zero_le _, rfl, rfl⟩
  case round =>
    obtain ⟨k, m, hk, rfl, hwr⟩ := hrel
    have g1 := h1.nix ((Only.refl Nix w).drewN m)
    have g2 := h2.nix ((Only.refl Nix w).drewN m)
    rw [← hwr] at g1 g2
    have Hw := Lib.hid hwr
    clear hwr
    by_cases hlt : k < xs.length
    · obtain ⟨ad1, e1, hx1⟩ := g1.at_ hlt
      obtain ⟨ad2, e2, hx2⟩ := g2.at_ hlt
      subst e1 e2
      have hlt2 : (k : Int) < (xs.length : Int) := by omega
      generalize xs[k] = y at *
      go_wp2_with fail
      go_quiet (fail)
      go_wp2
      go_roundw
      case rel => exact ⟨k + 1, m + nq, by omega, by go_num, by rw [Hw.out, World.drewN_drewN]⟩
      case measure => simp [intOf]; omega
    · go_wp2
      go_ret
      exact ⟨rfl, m, Hw.out⟩

end Go.Proofs.Ytmnogedkinhljaa
