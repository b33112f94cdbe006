/-
  Slices of blocks and of points: what they hold.
-/
import Derived.Test.YtighdjbeddcckaaDoorVU
namespace Go.Proofs.YtighdjbeddcckaaDoor
open Go.RowKit

/-- bytes, no more than there is room for -/
structure CSrc (w : World) (v : Value) (bs : List Nat) : Prop where
  src : Src w v bs
  cap : ∀ A n c, v = .slice A n c → n ≤ c
theorem CSrc.nix {w w' : World} {v : Value} {bs : List Nat} (h : CSrc w v bs) (ho : Only Nix w w') : CSrc w' v bs := ⟨h.src.nix ho, h.cap⟩
theorem CSrc.nil (w : World) : CSrc w (.slice none 0 0) [] := ⟨Src.nil w, fun _ _ _ e => by injection e with _ e2 e3; omega⟩
theorem CSrc.form {w : World} {v : Value} {bs : List Nat} (h : CSrc w v bs) : ∃ A c, v = .slice A bs.length c ∧ bs.length ≤ c := by
  obtain ⟨A, c, rfl⟩ := h.src.slice
  exact ⟨A, c, rfl, h.cap _ _ _ rfl⟩
abbrev Bk := Int × List Nat
/-- The slice v0 holds these blocks. -/
structure BSrc (w : World) (v0 : Value) (l : List Bk) : Prop where
  form : ∃ A c, v0 = .slice A l.length c ∧ l.length ≤ c ∧ ∀ j, (hj : j < l.length) → ∃ ad d, A = some ad ∧ w.cell? (ad.add (j * 2)) = some (iv l[j].1) ∧ w.cell? (ad.add (j * 2 + 1)) = some d ∧ CSrc w d l[j].2
  small : l.length ≤ 140737488355328
  fits : ∀ p ∈ l, -9223372036854775808 ≤ p.1 ∧ p.1 ≤ 9223372036854775807
theorem BSrc.nix {w w' : World} {v : Value} {l : List Bk} (h : BSrc w v l) (ho : Only Nix w w') : BSrc w' v l := by
  obtain ⟨A, c, hv, hcap, hc⟩ := h.form
  refine ⟨⟨A, c, hv, hcap, fun j hj => ?_⟩, h.small, h.fits⟩
  obtain ⟨ad, d, hA, hx, hy, hs⟩ := hc j hj
  exact ⟨ad, d, hA, cell_keep ho hx, cell_keep ho hy, hs.nix ho⟩
theorem BSrc.slice {w : World} {v : Value} {l : List Bk} (h : BSrc w v l) : ∃ A c, v = .slice A l.length c := by
  obtain ⟨A, c, hv, _⟩ := h.form
  exact ⟨A, c, hv⟩
theorem BSrc.at_ {w : World} {A : Option Addr} {n c : Nat} {l : List Bk} (h : BSrc w (.slice A n c) l) {k : Nat} (hk : k < l.length) :
    ∃ ad B d, A = some ad ∧ w.cell? (ad.add (k * 2)) = some (iv l[k].1) ∧ w.cell? ⟨(ad.add (k * 2)).block, (ad.add (k * 2)).off + 1, none⟩ = some (.slice B l[k].2.length d) ∧ l[k].2.length ≤ d ∧ CSrc w (.slice B l[k].2.length d) l[k].2 := by
  obtain ⟨A', c', hv, _, hc⟩ := h.form
  injection hv with e1 _ _
  subst e1
  obtain ⟨ad, v, h1, h2, h3, h4⟩ := hc k hk
  obtain ⟨B, d, rfl, hd⟩ := h4.form
  exact ⟨ad, B, d, h1, h2, by rw [← add_one, add_add]; exact h3, hd, h4⟩
theorem BSrc.len {w : World} {A : Option Addr} {n c : Nat} {l : List Bk} (h : BSrc w (.slice A n c) l) : n = l.length := by
  obtain ⟨A', c', hv, _⟩ := h.form
  injection hv
theorem BSrc.cap {w : World} {A : Option Addr} {n c : Nat} {l : List Bk} (h : BSrc w (.slice A n c) l) : l.length ≤ c := by
  obtain ⟨A', c', hv, h2, _⟩ := h.form
  injection hv with _ _ e3
  omega
theorem BSrc.nil (w : World) : BSrc w (.slice none 0 0) [] := ⟨⟨none, 0, rfl, Nat.le_refl _, fun j hj => by simp at hj⟩, by simp, by simp⟩
abbrev Pt := Int × Int × Int
/-- Three numbers of 64 bits. -/
def F3 (p : Pt) : Prop := (-9223372036854775808 ≤ p.1 ∧ p.1 ≤ 9223372036854775807) ∧ (-9223372036854775808 ≤ p.2.1 ∧ p.2.1 ≤ 9223372036854775807) ∧ (-9223372036854775808 ≤ p.2.2 ∧ p.2.2 ≤ 9223372036854775807)
/-- The slice v0 holds these points. -/
structure TSrc (w : World) (v0 : Value) (l : List Pt) : Prop where
  form : ∃ A c, v0 = .slice A l.length c ∧ l.length ≤ c ∧ ∀ j, (hj : j < l.length) → ∃ ad, A = some ad ∧ w.cell? (ad.add (j * 3)) = some (iv l[j].1) ∧ w.cell? (ad.add (j * 3 + 1)) = some (iv l[j].2.1) ∧ w.cell? (ad.add (j * 3 + 2)) = some (iv l[j].2.2)
  small : l.length ≤ 140737488355328
  fits : ∀ p ∈ l, F3 p
theorem TSrc.only {F : Nat → Prop} {w w' : World} {v : Value} {l : List Pt} (h : TSrc w v l) (ho : Only F w w') (hF : ∀ i, i < w.heap.size → F i → ∀ ad n c, v = .slice (some ad) n c → ad.block ≠ i) : TSrc w' v l := by
  obtain ⟨A, c, hv, hcap, hc⟩ := h.form
  refine ⟨⟨A, c, hv, hcap, fun j hj => ?_⟩, h.small, h.fits⟩
  obtain ⟨ad, hA, hx, hy, hz⟩ := hc j hj
  subst hA
  have ne : ∀ k u, w.cell? (ad.add k) = some u → ¬ F (ad.add k).block := fun k u hk e => hF _ (World.block_lt_of_cell? w _ hk) e ad _ c hv (add_block ad k).symm
  exact ⟨ad, rfl, cell_only ho hx (ne _ _ hx), cell_only ho hy (ne _ _ hy), cell_only ho hz (ne _ _ hz)⟩
theorem TSrc.nix {w w' : World} {v : Value} {l : List Pt} (h : TSrc w v l) (ho : Only Nix w w') : TSrc w' v l := h.only ho (fun _ _ e => e.elim)
theorem TSrc.slice {w : World} {v : Value} {l : List Pt} (h : TSrc w v l) : ∃ A c, v = .slice A l.length c := by
  obtain ⟨A, c, hv, _⟩ := h.form
  exact ⟨A, c, hv⟩
theorem add_two (a : Addr) : a.add 2 = ⟨a.block, a.off + 2, none⟩ := by unfold Addr.add; rw [if_neg (by decide)]
theorem TSrc.at_ {w : World} {A : Option Addr} {n c : Nat} {l : List Pt} (h : TSrc w (.slice A n c) l) {k : Nat} (hk : k < l.length) :
    ∃ ad, A = some ad ∧ w.cell? (ad.add (k * 3)) = some (iv l[k].1) ∧ w.cell? ⟨(ad.add (k * 3)).block, (ad.add (k * 3)).off + 1, none⟩ = some (iv l[k].2.1) ∧ w.cell? ⟨(ad.add (k * 3)).block, (ad.add (k * 3)).off + 2, none⟩ = some (iv l[k].2.2) := by
  obtain ⟨A', c', hv, _, hc⟩ := h.form
  injection hv with e1 _ _
  subst e1
  obtain ⟨ad, h1, h2, h3, h4⟩ := hc k hk
  exact ⟨ad, h1, h2, by rw [← add_one, add_add]; exact h3, by rw [← add_two, add_add]; exact h4⟩
theorem TSrc.len {w : World} {A : Option Addr} {n c : Nat} {l : List Pt} (h : TSrc w (.slice A n c) l) : n = l.length := by
  obtain ⟨A', c', hv, _⟩ := h.form
  injection hv
theorem TSrc.cap {w : World} {A : Option Addr} {n c : Nat} {l : List Pt} (h : TSrc w (.slice A n c) l) : l.length ≤ c := by
  obtain ⟨A', c', hv, h2, _⟩ := h.form
  injection hv with _ _ e3
  omega
theorem TSrc.nil (w : World) : TSrc w (.slice none 0 0) [] := ⟨⟨none, 0, rfl, Nat.le_refl _, fun j hj => by simp at hj⟩, by simp, by simp⟩
/-- what lies in a block -/
theorem TSrc.of_cells {w : World} {g c n : Nat} {l : List Pt} (hn : l.length = n) (hc : n ≤ c) (h : ∀ j, (hj : j < l.length) → w.cell? ⟨g, j * 3, none⟩ = some (iv l[j].1) ∧ w.cell? ⟨g, j * 3 + 1, none⟩ = some (iv l[j].2.1) ∧ w.cell? ⟨g, j * 3 + 2, none⟩ = some (iv l[j].2.2)) (hs : l.length ≤ 140737488355328)
    (hf : ∀ p ∈ l, F3 p) : TSrc w (.slice (some ⟨g, 0, none⟩) n c) l :=
  ⟨⟨_, c, by rw [hn], by omega, fun j hj => ⟨_, rfl, by rw [Addr.add_lit, Nat.zero_add]; exact (h j hj).1, by rw [Addr.add_lit, Nat.zero_add]; exact (h j hj).2.1, by rw [Addr.add_lit, Nat.zero_add]; exact (h j hj).2.2⟩⟩, hs, hf⟩
end Go.Proofs.YtighdjbeddcckaaDoor
