/-
  Slices of numbers, of bytes, of pieces: what they hold.
-/
import Derived.Test.YtphpciglpnbblaaDoorMem
import Derived.Test.YtphpciglpnbblaaDoorInts
import Derived.Outline
import Derived.Laws.Rows
import Derived.Laws.Tables
import Derived.Laws.ResultCell
namespace Go.Proofs.YtphpciglpnbblaaDoor
open Go.RowKit

/-- an int -/
abbrev iv (n : Int) : Value := .int .i64 n
/-- two numbers -/
abbrev two (a b : Int) : Ending := .returned (.tuple #[.int .i64 a, .int .i64 b])
theorem cell_keep {w w' : World} (ho : Only Nix w w') {a : Addr} {u : Value} (h : w.cell? a = some u) : w'.cell? a = some u := by
  rw [World.cell?_of_block (w := w) (ho.block a.block (World.block_lt_of_cell? w a h) (fun e => e))]
  exact h
theorem cell_only {F : Nat → Prop} {w w' : World} (ho : Only F w w') {a : Addr} {u : Value} (h : w.cell? a = some u) (hF : ¬ F a.block) : w'.cell? a = some u := by
  rw [World.cell?_of_block (w := w) (ho.block a.block (World.block_lt_of_cell? w a h) hF)]
  exact h
theorem add_block (ad : Addr) (j : Nat) : (ad.add j).block = ad.block := by unfold Addr.add; split <;> rfl
theorem add_add (ad : Addr) (j k : Nat) : (ad.add j).add k = ad.add (j + k) := by
  unfold Addr.add
  split <;> split <;> simp_all [Nat.add_assoc]

/-- The slice v0 holds these numbers. -/
structure ISrc (w : World) (v0 : Value) (xs : List Int) : Prop where
  form : ∃ A c, v0 = .slice A xs.length c ∧ xs.length ≤ c ∧ ∀ j, (hj : j < xs.length) → ∃ ad, A = some ad ∧ w.cell? (ad.add j) = some (iv xs[j])
  small : xs.length ≤ 140737488355328
  fits : ∀ x ∈ xs, -9223372036854775808 ≤ x ∧ x ≤ 9223372036854775807
theorem ISrc.only {F : Nat → Prop} {w w' : World} {v : Value} {xs : List Int} (h : ISrc w v xs) (ho : Only F w w') (hF : ∀ i, i < w.heap.size → F i → ∀ ad n c, v = .slice (some ad) n c → 0 < n → ad.block ≠ i) : ISrc w' v xs := by
  obtain ⟨A, c, hv, hcap, hc⟩ := h.form
  refine ⟨⟨A, c, hv, hcap, fun j hj => ?_⟩, h.small, h.fits⟩
  obtain ⟨ad, hA, hx⟩ := hc j hj
  refine ⟨ad, hA, cell_only ho hx (fun e => ?_)⟩
  subst hA
  exact hF _ (World.block_lt_of_cell? w _ hx) e ad _ c hv (by omega) (add_block ad j).symm
theorem ISrc.nix {w w' : World} {v : Value} {xs : List Int} (h : ISrc w v xs) (ho : Only Nix w w') : ISrc w' v xs := h.only ho (fun _ _ e => e.elim)
theorem ISrc.at_ {w : World} {A : Option Addr} {n c : Nat} {xs : List Int} (h : ISrc w (.slice A n c) xs) {k : Nat} (hk : k < xs.length) : ∃ ad, A = some ad ∧ w.cell? (ad.add k) = some (iv xs[k]) := by
  obtain ⟨A', c', hv, _, hc⟩ := h.form
  injection hv with e1 _ _
  subst e1
  exact hc k hk
theorem ISrc.len {w : World} {A : Option Addr} {n c : Nat} {xs : List Int} (h : ISrc w (.slice A n c) xs) : n = xs.length := by
  obtain ⟨A', c', hv, _⟩ := h.form
  injection hv
theorem ISrc.cap {w : World} {A : Option Addr} {n c : Nat} {xs : List Int} (h : ISrc w (.slice A n c) xs) : xs.length ≤ c := by
  obtain ⟨A', c', hv, h2, _⟩ := h.form
  injection hv with _ _ e3
  omega
theorem ISrc.slice {w : World} {v : Value} {xs : List Int} (h : ISrc w v xs) : ∃ A c, v = .slice A xs.length c := by
  obtain ⟨A, c, hv, _⟩ := h.form
  exact ⟨A, c, hv⟩
/-- a piece of it -/
theorem ISrc.sub {w : World} {ad : Addr} {n c : Nat} {xs : List Int} (h : ISrc w (.slice (some ad) n c) xs) (i m : Nat) (hi : i + m ≤ xs.length) (c' : Nat) (hc : m ≤ c') : ISrc w (.slice (some (ad.add i)) m c') ((xs.drop i).take m) := by
  have hl : ((xs.drop i).take m).length = m := by simp; omega
  refine ⟨⟨some (ad.add i), c', by rw [hl], by omega, fun j hj => ?_⟩, by have := h.small; omega, fun x hx => h.fits x (List.mem_of_mem_drop (List.mem_of_mem_take hx))⟩
  have hj2 : i + j < xs.length := by omega
  obtain ⟨ad', e, hx⟩ := h.at_ hj2
  injection e with e
  subst e
  refine ⟨_, rfl, ?_⟩
  rw [add_add, hx]
  simp
/-- what lies in a block -/
theorem ISrc.of_box {w : World} {g c n : Nat} {xs : List Int} {t : TypeId} (h : Box w g t (xs.map iv).toArray) (hn : xs.length = n) (hc : n ≤ c) (hs : xs.length ≤ 140737488355328) (hf : ∀ x ∈ xs, -9223372036854775808 ≤ x ∧ x ≤ 9223372036854775807) : ISrc w (.slice (some ⟨g, 0, none⟩) n c) xs := by
  refine ⟨⟨_, c, by rw [hn], by omega, fun j hj => ⟨_, rfl, ?_⟩⟩, hs, hf⟩
  rw [Addr.add_lit, Nat.zero_add, h.cell]
  simp [hj]

theorem ISrc.same {w w' : World} {v : Value} {xs : List Int} (h : ISrc w v xs) (hs : ∀ ad n c, v = .slice (some ad) n c → 0 < n → w'.heap[ad.block]? = w.heap[ad.block]?) : ISrc w' v xs := by
  obtain ⟨A, c, hv, hcap, hc⟩ := h.form
  refine ⟨⟨A, c, hv, hcap, fun j hj => ?_⟩, h.small, h.fits⟩
  obtain ⟨ad, hA, hx⟩ := hc j hj
  refine ⟨ad, hA, ?_⟩
  subst hA
  rw [World.cell?_of_block (w := w) (by rw [add_block]; exact hs ad _ c hv (by omega))]
  exact hx
theorem ISrc.blk {w : World} {v : Value} {xs : List Int} (h : ISrc w v xs) : ∀ ad n c, v = .slice (some ad) n c → 0 < n → ad.block < w.heap.size := by
  intro ad n c e hn
  subst e
  have hl := h.len
  obtain ⟨ad', e, hx⟩ := h.at_ (k := 0) (by omega)
  injection e with e
  subst e
  have := World.block_lt_of_cell? w _ hx
  rwa [add_block] at this
theorem isrc_lit (w : World) (xs : List Int) (hn : xs.length ≤ 100) (hf : ∀ x ∈ xs, -9223372036854775808 ≤ x ∧ x ≤ 9223372036854775807) : ISrc (w.alloc (.cells (xs.map iv).toArray 3)) (.slice (some ⟨w.heap.size, 0, none⟩) xs.length xs.length) xs :=
  ISrc.of_box (Box.new w 3 (xs.map iv).toArray) rfl (Nat.le_refl _) (by omega) hf

/-- a byte as a value -/
def byt (x : Nat) : Value := .int .u8 (x : Int)
/-- The slice v0 holds these bytes. -/
structure Src (w : World) (v0 : Value) (bs : List Nat) : Prop where
  form : ∃ A c, v0 = .slice A bs.length c ∧ ∀ j, (hj : j < bs.length) → ∃ ad, A = some ad ∧ w.cell? (ad.add j) = some (byt bs[j])
  small : bs.length ≤ 140737488355328
  lt : ∀ x ∈ bs, x < 256
theorem Src.only {F : Nat → Prop} {w w' : World} {v : Value} {bs : List Nat} (h : Src w v bs) (ho : Only F w w') (hF : ∀ i, i < w.heap.size → F i → ∀ ad n c, v = .slice (some ad) n c → ad.block ≠ i) : Src w' v bs := by
  obtain ⟨A, c, hv, hc⟩ := h.form
  refine ⟨⟨A, c, hv, fun j hj => ?_⟩, h.small, h.lt⟩
  obtain ⟨ad, hA, hx⟩ := hc j hj
  refine ⟨ad, hA, cell_only ho hx (fun e => ?_)⟩
  subst hA
  exact hF _ (World.block_lt_of_cell? w _ hx) e ad _ c hv (add_block ad j).symm
theorem Src.nix {w w' : World} {v : Value} {bs : List Nat} (h : Src w v bs) (ho : Only Nix w w') : Src w' v bs := h.only ho (fun _ _ e => e.elim)
theorem Src.of_cells {w : World} {b off c n : Nat} {bs : List Nat} (hn : bs.length = n) (h : ∀ j, (hj : j < bs.length) → w.cell? ⟨b, off + j, none⟩ = some (byt bs[j])) (hs : bs.length ≤ 140737488355328) (hl : ∀ x ∈ bs, x < 256) : Src w (.slice (some ⟨b, off, none⟩) n c) bs :=
  ⟨⟨_, c, by rw [hn], fun j hj => ⟨_, rfl, by rw [Addr.add_lit]; exact h j hj⟩⟩, hs, hl⟩
theorem Src.nil (w : World) : Src w (.slice none 0 0) [] := ⟨⟨none, 0, rfl, fun j hj => by simp at hj⟩, by simp, by simp⟩

theorem Src.slice {w : World} {v : Value} {bs : List Nat} (h : Src w v bs) : ∃ A c, v = .slice A bs.length c := by
  obtain ⟨A, c, hv, _⟩ := h.form
  exact ⟨A, c, hv⟩
theorem Src.at_ {w : World} {A : Option Addr} {n c : Nat} {bs : List Nat} (h : Src w (.slice A n c) bs) {k : Nat} (hk : k < bs.length) : ∃ ad, A = some ad ∧ w.cell? (ad.add k) = some (byt bs[k]) := by
  obtain ⟨A', c', hv, hc⟩ := h.form
  injection hv with e1 _ _
  subst e1
  exact hc k hk
theorem Src.len {w : World} {A : Option Addr} {n c : Nat} {bs : List Nat} (h : Src w (.slice A n c) bs) : n = bs.length := by
  obtain ⟨A', c', hv, _⟩ := h.form
  injection hv

/-- two numbers as a piece -/
abbrev pv (p : Int × Int) : Value := .agg #[iv p.1, iv p.2]
theorem add_one (a : Addr) : a.add 1 = ⟨a.block, a.off + 1, none⟩ := by unfold Addr.add; rw [if_neg (by decide)]
/-- The slice v0 holds these pieces. -/
structure PSrc (w : World) (v0 : Value) (ps : List (Int × Int)) : Prop where
  form : ∃ A c, v0 = .slice A ps.length c ∧ ps.length ≤ c ∧ ∀ j, (hj : j < ps.length) → ∃ ad, A = some ad ∧ w.cell? (ad.add (j * 2)) = some (iv ps[j].1) ∧ w.cell? (ad.add (j * 2 + 1)) = some (iv ps[j].2)
  small : ps.length ≤ 140737488355328
  fits : ∀ p ∈ ps, (-9223372036854775808 ≤ p.1 ∧ p.1 ≤ 9223372036854775807) ∧ (-9223372036854775808 ≤ p.2 ∧ p.2 ≤ 9223372036854775807)
theorem PSrc.nix {w w' : World} {v : Value} {ps : List (Int × Int)} (h : PSrc w v ps) (ho : Only Nix w w') : PSrc w' v ps := by
  obtain ⟨A, c, hv, hcap, hc⟩ := h.form
  refine ⟨⟨A, c, hv, hcap, fun j hj => ?_⟩, h.small, h.fits⟩
  obtain ⟨ad, hA, hx, hy⟩ := hc j hj
  exact ⟨ad, hA, cell_keep ho hx, cell_keep ho hy⟩
theorem PSrc.slice {w : World} {v : Value} {ps : List (Int × Int)} (h : PSrc w v ps) : ∃ A c, v = .slice A ps.length c := by
  obtain ⟨A, c, hv, _⟩ := h.form
  exact ⟨A, c, hv⟩
theorem PSrc.at_ {w : World} {A : Option Addr} {n c : Nat} {ps : List (Int × Int)} (h : PSrc w (.slice A n c) ps) {k : Nat} (hk : k < ps.length) : ∃ ad, A = some ad ∧ w.cell? (ad.add (k * 2)) = some (iv ps[k].1) ∧ w.cell? ⟨(ad.add (k * 2)).block, (ad.add (k * 2)).off + 1, none⟩ = some (iv ps[k].2) := by
  obtain ⟨A', c', hv, _, hc⟩ := h.form
  injection hv with e1 _ _
  subst e1
  obtain ⟨ad, h1, h2, h3⟩ := hc k hk
  exact ⟨ad, h1, h2, by rw [← add_one, add_add]; exact h3⟩
theorem PSrc.len {w : World} {A : Option Addr} {n c : Nat} {ps : List (Int × Int)} (h : PSrc w (.slice A n c) ps) : n = ps.length := by
  obtain ⟨A', c', hv, _⟩ := h.form
  injection hv
theorem PSrc.cap {w : World} {A : Option Addr} {n c : Nat} {ps : List (Int × Int)} (h : PSrc w (.slice A n c) ps) : ps.length ≤ c := by
  obtain ⟨A', c', hv, h2, _⟩ := h.form
  injection hv with _ _ e3
  omega
/-- its beginning -/
theorem PSrc.take {w : World} {A : Option Addr} {n c : Nat} {ps : List (Int × Int)} (h : PSrc w (.slice A n c) ps) (m c' : Nat) (hm : m ≤ n) (hc : m ≤ c') : PSrc w (.slice A m c') (ps.take m) := by
  have hn := h.len
  have hl : (ps.take m).length = m := by rw [List.length_take]; omega
  refine ⟨⟨A, c', by rw [hl], by omega, fun j hj => ?_⟩, by have := h.small; omega, fun p hp => h.fits p (List.mem_of_mem_take hp)⟩
  obtain ⟨ad, hA, hx, hy⟩ := h.at_ (k := j) (by omega)
  exact ⟨ad, hA, by rw [hx, List.getElem_take], by rw [← add_one, add_add] at hy; rw [hy, List.getElem_take]⟩
/-- what lies in a block -/
theorem PSrc.of_cells {w : World} {g c n : Nat} {ps : List (Int × Int)} (hn : ps.length = n) (hc : n ≤ c) (h : ∀ j, (hj : j < ps.length) → w.cell? ⟨g, j * 2, none⟩ = some (iv ps[j].1) ∧ w.cell? ⟨g, j * 2 + 1, none⟩ = some (iv ps[j].2)) (hs : ps.length ≤ 140737488355328)
    (hf : ∀ p ∈ ps, (-9223372036854775808 ≤ p.1 ∧ p.1 ≤ 9223372036854775807) ∧ (-9223372036854775808 ≤ p.2 ∧ p.2 ≤ 9223372036854775807)) : PSrc w (.slice (some ⟨g, 0, none⟩) n c) ps :=
  ⟨⟨_, c, by rw [hn], by omega, fun j hj => ⟨_, rfl, by rw [Addr.add_lit, Nat.zero_add]; exact (h j hj).1, by rw [Addr.add_lit, Nat.zero_add]; exact (h j hj).2⟩⟩, hs, hf⟩
theorem PSrc.nil (w : World) : PSrc w (.slice none 0 0) [] := ⟨⟨none, 0, rfl, Nat.le_refl _, fun j hj => by simp at hj⟩, by simp, by simp⟩
end Go.Proofs.YtphpciglpnbblaaDoor
