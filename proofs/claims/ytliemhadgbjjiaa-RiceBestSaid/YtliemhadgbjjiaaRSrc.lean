/-
  Slices of numbers: what they hold; slices.Max; foldAll.
-/
import Derived.Test.YtliemhadgbjjiaaRSmall
namespace Go.Proofs.Ytliemhadgbjjiaa
open Go.RowKit

theorem cell_keep {w w' : World} (ho : Only Nix w w') {a : Addr} {u : Value} (h : w.cell? a = some u) : w'.cell? a = some u := by
  rw [World.cell?_of_block (w := w) (ho.block a.block (World.block_lt_of_cell? w a h) (fun e => e))]
  exact h
theorem cell_only {F : Nat → Prop} {w w' : World} (ho : Only F w w') {a : Addr} {u : Value} (h : w.cell? a = some u) (hF : ¬ F a.block) : w'.cell? a = some u := by
  rw [World.cell?_of_block (w := w) (ho.block a.block (World.block_lt_of_cell? w a h) hF)]
  exact h
theorem add_block (ad : Addr) (j : Nat) : (ad.add j).block = ad.block := by unfold Addr.add; split <;> rfl
theorem add_add (ad : Addr) (j k : Nat) : (ad.add j).add k = ad.add (j + k) := by
  unfold Addr.add
  split <;> split <;> simp_all [Nat.add_assoc]

/-- The slice v0 holds these numbers. -/
structure ISrc (w : World) (v0 : Value) (xs : List Int) : Prop where
  form : ∃ A c, v0 = .slice A xs.length c ∧ xs.length ≤ c ∧ ∀ j, (hj : j < xs.length) → ∃ ad, A = some ad ∧ w.cell? (ad.add j) = some (iv xs[j])
  small : xs.length ≤ 140737488355328
  fits : ∀ x ∈ xs, -9223372036854775808 ≤ x ∧ x ≤ 9223372036854775807
theorem ISrc.only {F : Nat → Prop} {w w' : World} {v : Value} {xs : List Int} (h : ISrc w v xs) (ho : Only F w w') (hF : ∀ i, i < w.heap.size → F i → ∀ ad n c, v = .slice (some ad) n c → 0 < n → ad.block ≠ i) : ISrc w' v xs := by
  obtain ⟨A, c, hv, hcap, hc⟩ := h.form
  refine ⟨⟨A, c, hv, hcap, fun j hj => ?_⟩, h.small, h.fits⟩
  obtain ⟨ad, hA, hx⟩ := hc j hj
  refine ⟨ad, hA, cell_only ho hx (fun e => ?_)⟩
  subst hA
  exact hF _ (World.block_lt_of_cell? w _ hx) e ad _ c hv (by omega) (add_block ad j).symm
theorem ISrc.nix {w w' : World} {v : Value} {xs : List Int} (h : ISrc w v xs) (ho : Only Nix w w') : ISrc w' v xs := h.only ho (fun _ _ e => e.elim)
theorem ISrc.at_ {w : World} {A : Option Addr} {n c : Nat} {xs : List Int} (h : ISrc w (.slice A n c) xs) {k : Nat} (hk : k < xs.length) : ∃ ad, A = some ad ∧ w.cell? (ad.add k) = some (iv xs[k]) := by
  obtain ⟨A', c', hv, _, hc⟩ := h.form
  injection hv with e1 _ _
  subst e1
  exact hc k hk
theorem ISrc.len {w : World} {A : Option Addr} {n c : Nat} {xs : List Int} (h : ISrc w (.slice A n c) xs) : n = xs.length := by
  obtain ⟨A', c', hv, _⟩ := h.form
  injection hv
theorem ISrc.cap {w : World} {A : Option Addr} {n c : Nat} {xs : List Int} (h : ISrc w (.slice A n c) xs) : xs.length ≤ c := by
  obtain ⟨A', c', hv, h2, _⟩ := h.form
  injection hv with _ _ e3
  omega
theorem ISrc.slice {w : World} {v : Value} {xs : List Int} (h : ISrc w v xs) : ∃ A c, v = .slice A xs.length c := by
  obtain ⟨A, c, hv, _⟩ := h.form
  exact ⟨A, c, hv⟩
/-- a piece of it -/
theorem ISrc.sub {w : World} {ad : Addr} {n c : Nat} {xs : List Int} (h : ISrc w (.slice (some ad) n c) xs) (i m : Nat) (hi : i + m ≤ xs.length) (c' : Nat) (hc : m ≤ c') : ISrc w (.slice (some (ad.add i)) m c') ((xs.drop i).take m) := by
  have hl : ((xs.drop i).take m).length = m := by simp; omega
  refine ⟨⟨some (ad.add i), c', by rw [hl], by omega, fun j hj => ?_⟩, by have := h.small; omega, fun x hx => h.fits x (List.mem_of_mem_drop (List.mem_of_mem_take hx))⟩
  have hj2 : i + j < xs.length := by omega
  obtain ⟨ad', e, hx⟩ := h.at_ hj2
  injection e with e
  subst e
  refine ⟨_, rfl, ?_⟩
  rw [add_add, hx]
  simp
/-- what lies in a block -/
theorem ISrc.of_box {w : World} {g c n : Nat} {xs : List Int} {t : TypeId} (h : Box w g t (xs.map iv).toArray) (hn : xs.length = n) (hc : n ≤ c) (hs : xs.length ≤ 140737488355328) (hf : ∀ x ∈ xs, -9223372036854775808 ≤ x ∧ x ≤ 9223372036854775807) : ISrc w (.slice (some ⟨g, 0, none⟩) n c) xs := by
  refine ⟨⟨_, c, by rw [hn], by omega, fun j hj => ⟨_, rfl, ?_⟩⟩, hs, hf⟩
  rw [Addr.add_lit, Nat.zero_add, h.cell]
  simp [hj]

/-- the greatest number -/
def mxI : List Int → Int
  | [] => 0
  | x :: xs => xs.foldl max x
theorem mxI_snoc (xs : List Int) (h : xs ≠ []) (y : Int) : mxI (xs ++ [y]) = max (mxI xs) y := by
  cases xs with
  | nil => exact absurd rfl h
  | cons x xs => simp [mxI]
theorem foldl_max_spec (xs : List Int) : ∀ a : Int, (xs.foldl max a = a ∨ xs.foldl max a ∈ xs) ∧ a ≤ xs.foldl max a ∧ ∀ x ∈ xs, x ≤ xs.foldl max a := by
  induction xs with
  | nil => intro a; simp
  | cons x xs ih =>
    intro a
    obtain ⟨h1, h2, h3⟩ := ih (max a x)
    rw [List.foldl_cons]
    refine ⟨?_, by omega, fun y hy => ?_⟩
    · rcases h1 with h1 | h1
      · rw [h1]
        by_cases hax : x ≤ a
        · exact .inl (by omega)
        · refine .inr (List.mem_cons.2 (.inl (by omega)))
      · exact .inr (List.mem_cons_of_mem _ h1)
    · rcases List.mem_cons.1 hy with rfl | hy
      · omega
      · exact h3 y hy
theorem mxI_mem {xs : List Int} (h : 0 < xs.length) : mxI xs ∈ xs := by
  cases xs with
  | nil => simp at h
  | cons x xs =>
    rcases (foldl_max_spec xs x).1 with h1 | h1
    · rw [show mxI (x :: xs) = x from h1]; exact List.mem_cons_self ..
    · exact List.mem_cons_of_mem _ h1
theorem mxI_le {xs : List Int} : ∀ x ∈ xs, x ≤ mxI xs := by
  cases xs with
  | nil => simp
  | cons y xs =>
    intro x hx
    rcases List.mem_cons.1 hx with rfl | hx
    · exact (foldl_max_spec xs x).2.1
    · exact (foldl_max_spec xs y).2.2 x hx

def MaxP (w : World) (xs : List Int) (s3 s4 : Value) (wr : World) : Prop := ∃ j : Nat, 1 ≤ j ∧ j ≤ xs.length ∧ s3 = iv (mxI (xs.take j)) ∧ s4 = iv j ∧ w = wr
set_option maxHeartbeats 1000000 in
theorem max_any {w : World} (A : Option Addr) (c : Nat) (xs : List Int) (hx : ISrc w (.slice A xs.length c) xs) (h1 : 1 ≤ xs.length) :
    Calls Try.prog 57 #[.slice A xs.length c] w fun e w' => e = .returned (iv (mxI xs)) ∧ w = w' := by
  have hsm := hx.small
  have HX := Lib.hid hx
  clear hx
  obtain ⟨ad, rfl, hx0⟩ := HX.out.at_ (k := 0) (by omega)
  rw [Addr.add_zero'] at hx0
  have e0 : mxI (xs.take 1) = xs[0] := by
    obtain ⟨x, r, rfl⟩ : ∃ x r, xs = x :: r := by cases xs with | nil => simp at h1 | cons x r => exact ⟨x, r, rfl⟩
    rfl
  have H0 := Lib.hid e0
  clear e0
  have g5 : ¬ xs.length = 0 := by omega
  have g6 : ¬ xs.length < 1 := by omega
  have g3 : ¬ ((xs.length : Int) < 1) := by omega
  have HE : Hid (xs.take xs.length = xs) := Lib.hid (List.take_length)
  generalize xs[0] = x0 at *
  generalize hN : xs.length = N at *
  have HN := Lib.hid hN
  clear hN
  go_enter Try.func57, Try.ntmps57
  go_wp2
  go_loopw [3, 4] (fun s3 s4 wr => MaxP w xs s3 s4 wr) (fun _ s4 _ => N - (intOf s4).toNat)
  case atStart => exact ⟨1, Nat.le_refl _, by rw [HN.out]; omega, by rw [H0.out], rfl, rfl⟩
  case round =>
    obtain ⟨j, hj1, hj, rfl, rfl, rfl⟩ := hrel
    rw [HN.out] at hj
    by_cases hlt : j < N
    · have hltx : j < xs.length := by rw [HN.out]; exact hlt
      obtain ⟨ad', e1, hxj⟩ := HX.out.at_ hltx
      injection e1 with e1
      subst e1
      have hft := HX.out.fits _ (List.getElem_mem hltx)
      have hlt2 : (j : Int) < (N : Int) := by omega
      have HS : Hid (mxI (xs.take (j + 1)) = max (mxI (xs.take j)) xs[j]) := by
        refine Lib.hid ?_
        rw [List.take_succ_eq_append_getElem hltx]
        exact mxI_snoc _ (by intro e; have := congrArg List.length e; rw [List.length_take, HN.out, List.length_nil] at this; omega) _
      generalize xs[j] = x at *
      clear hltx
      generalize mxI (xs.take j) = M at *
      go_wp2
      all_goals go_roundw
      all_goals first
        | (case rel => exact ⟨j + 1, by omega, by rw [HN.out]; omega, by rw [HS.out]; congr 1; omega, by go_num, rfl⟩)
        | (case measure => simp [intOf]; omega)
    · obtain rfl : j = N := by omega
      rw [HE.out]
      go_wp2
      go_ret
      exact ⟨rfl, rfl⟩
end Go.Proofs.Ytliemhadgbjjiaa
