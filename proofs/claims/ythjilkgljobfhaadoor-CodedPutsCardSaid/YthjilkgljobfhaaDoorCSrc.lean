/-
  Slices of bytes: what they hold. The table of package coded, as start-up lays it.
-/
import Derived.Test.YthjilkgljobfhaaDoorMem
import Derived.Test.YthjilkgljobfhaaDoorInts
import Derived.Test.YthjilkgljobfhaaDoorCMath
import Derived.Outline
namespace Go.Proofs.YthjilkgljobfhaaDoor
open Go.RowKit

/-- an int -/
abbrev iv (n : Int) : Value := .int .i64 n
/-- a byte as a value -/
def byt (x : Nat) : Value := .int .u8 (x : Int)
theorem cell_keep {w w' : World} (ho : Only Nix w w') {a : Addr} {u : Value} (h : w.cell? a = some u) : w'.cell? a = some u := by
  rw [World.cell?_of_block (w := w) (ho.block a.block (World.block_lt_of_cell? w a h) (fun e => e))]
  exact h
theorem cell_only {F : Nat → Prop} {w w' : World} (ho : Only F w w') {a : Addr} {u : Value} (h : w.cell? a = some u) (hF : ¬ F a.block) : w'.cell? a = some u := by
  rw [World.cell?_of_block (w := w) (ho.block a.block (World.block_lt_of_cell? w a h) hF)]
  exact h

/-- The slice v0 holds these bytes. -/
structure Src (w : World) (v0 : Value) (bs : List Nat) : Prop where
  form : ∃ A c, v0 = .slice A bs.length c ∧ ∀ j, (hj : j < bs.length) → ∃ ad, A = some ad ∧ w.cell? (ad.add j) = some (byt bs[j])
  small : bs.length ≤ 140737488355328
  lt : ∀ x ∈ bs, x < 256
theorem add_block (ad : Addr) (j : Nat) : (ad.add j).block = ad.block := by unfold Addr.add; split <;> rfl
theorem Src.only {F : Nat → Prop} {w w' : World} {v : Value} {bs : List Nat} (h : Src w v bs) (ho : Only F w w') (hF : ∀ i, i < w.heap.size → F i → ∀ ad n c, v = .slice (some ad) n c → ad.block ≠ i) : Src w' v bs := by
  obtain ⟨A, c, hv, hc⟩ := h.form
  refine ⟨⟨A, c, hv, fun j hj => ?_⟩, h.small, h.lt⟩
  obtain ⟨ad, hA, hx⟩ := hc j hj
  refine ⟨ad, hA, cell_only ho hx (fun e => ?_)⟩
  subst hA
  exact hF _ (World.block_lt_of_cell? w _ hx) e ad _ c hv (add_block ad j).symm
theorem Src.nix {w w' : World} {v : Value} {bs : List Nat} (h : Src w v bs) (ho : Only Nix w w') : Src w' v bs := h.only ho (fun _ _ e => e.elim)
theorem Src.of_cells {w : World} {b off c n : Nat} {bs : List Nat} (hn : bs.length = n) (h : ∀ j, (hj : j < bs.length) → w.cell? ⟨b, off + j, none⟩ = some (byt bs[j])) (hs : bs.length ≤ 140737488355328) (hl : ∀ x ∈ bs, x < 256) : Src w (.slice (some ⟨b, off, none⟩) n c) bs :=
  ⟨⟨_, c, by rw [hn], fun j hj => ⟨_, rfl, by rw [Addr.add_lit]; exact h j hj⟩⟩, hs, hl⟩
theorem Src.nil (w : World) : Src w (.slice none 0 0) [] := ⟨⟨none, 0, rfl, fun j hj => by simp at hj⟩, by simp, by simp⟩

theorem Src.slice {w : World} {v : Value} {bs : List Nat} (h : Src w v bs) : ∃ A c, v = .slice A bs.length c := by
  obtain ⟨A, c, hv, _⟩ := h.form
  exact ⟨A, c, hv⟩
theorem Src.at_ {w : World} {A : Option Addr} {n c : Nat} {bs : List Nat} (h : Src w (.slice A n c) bs) {k : Nat} (hk : k < bs.length) : ∃ ad, A = some ad ∧ w.cell? (ad.add k) = some (byt bs[k]) := by
  obtain ⟨A', c', hv, hc⟩ := h.form
  injection hv with e1 _ _
  subst e1
  exact hc k hk
theorem Src.len {w : World} {A : Option Addr} {n c : Nat} {bs : List Nat} (h : Src w (.slice A n c) bs) : n = bs.length := by
  obtain ⟨A', c', hv, _⟩ := h.form
  injection hv
/-- literals of bytes -/
theorem src1 (w : World) (x : Nat) (hx : x < 256) (t : TypeId) : Src (w.alloc (.cells #[.int .u8 (x : Int)] t)) (.slice (some ⟨w.heap.size, 0, none⟩) 1 1) [x] := by
  refine Src.of_cells rfl (fun j hj => ?_) (by simp) (by simpa using hx)
  match j, hj with
  | 0, _ => simp [byt]
theorem src2 (w : World) (x y : Nat) (hx : x < 256) (hy : y < 256) (t : TypeId) : Src (w.alloc (.cells #[.int .u8 (x : Int), .int .u8 (y : Int)] t)) (.slice (some ⟨w.heap.size, 0, none⟩) 2 2) [x, y] := by
  refine Src.of_cells rfl (fun j hj => ?_) (by simp) (by simpa using ⟨hx, hy⟩)
  match j, hj with
  | 0, _ => simp [byt]
  | 1, _ => simp [byt]


theorem src3 (w : World) (x y z : Nat) (hx : x < 256) (hy : y < 256) (hz : z < 256) (t : TypeId) : Src (w.alloc (.cells #[.int .u8 (x : Int), .int .u8 (y : Int), .int .u8 (z : Int)] t)) (.slice (some ⟨w.heap.size, 0, none⟩) 3 3) [x, y, z] := by
  refine Src.of_cells rfl (fun j hj => ?_) (by simp) (by simpa using ⟨hx, hy, hz⟩)
  match j, hj with
  | 0, _ => simp [byt]
  | 1, _ => simp [byt]
  | 2, _ => simp [byt]

/-- The table of package coded holds what start-up laid. -/
structure Laid (w : World) : Prop where
  below : ∀ k, k < 7 → w.cell? ⟨0, k * 3, none⟩ = some (iv (bel.getD k 0 : Nat))
  mark : ∀ k, k < 7 → w.cell? ⟨0, k * 3 + 1, none⟩ = some (iv (mrk.getD k 0 : Nat))
  bits : ∀ k, k < 7 → w.cell? ⟨0, k * 3 + 2, none⟩ = some (iv (bts.getD k 0 : Nat))
theorem Laid.nix {w w' : World} (h : Laid w) (ho : Only Nix w w') : Laid w' :=
  ⟨fun k hk => cell_keep ho (h.below k hk), fun k hk => cell_keep ho (h.mark k hk), fun k hk => cell_keep ho (h.bits k hk)⟩
end Go.Proofs.YthjilkgljobfhaaDoor
