/-
  Slices of bytes, and of slices of bytes: what they hold.
-/
import Derived.Test.YtmnnjbamphoghaaDoorDiv
namespace Go.Proofs.YtmnnjbamphoghaaDoor
open Go.RowKit

/-- a byte as a value -/
def byt (x : Nat) : Value := .int .u8 (x : Int)
theorem cell_keep {w w' : World} (ho : Only Nix w w') {a : Addr} {u : Value} (h : w.cell? a = some u) : w'.cell? a = some u := by
  rw [World.cell?_of_block (w := w) (ho.block a.block (World.block_lt_of_cell? w a h) (fun e => e))]
  exact h
theorem cell_only {F : Nat → Prop} {w w' : World} (ho : Only F w w') {a : Addr} {u : Value} (h : w.cell? a = some u) (hF : ¬ F a.block) : w'.cell? a = some u := by
  rw [World.cell?_of_block (w := w) (ho.block a.block (World.block_lt_of_cell? w a h) hF)]
  exact h

/-- The slice v0 holds these bytes. -/
structure Src (w : World) (v0 : Value) (bs : List Nat) : Prop where
  form : ∃ A c, v0 = .slice A bs.length c ∧ ∀ j, (hj : j < bs.length) → ∃ ad, A = some ad ∧ w.cell? (ad.add j) = some (byt bs[j])
  small : bs.length ≤ 140737488355328
  lt : ∀ x ∈ bs, x < 256
theorem add_block (ad : Addr) (j : Nat) : (ad.add j).block = ad.block := by unfold Addr.add; split <;> rfl
theorem Src.only {F : Nat → Prop} {w w' : World} {v : Value} {bs : List Nat} (h : Src w v bs) (ho : Only F w w') (hF : ∀ i, i < w.heap.size → F i → ∀ ad n c, v = .slice (some ad) n c → ad.block ≠ i) : Src w' v bs := by
  obtain ⟨A, c, hv, hc⟩ := h.form
  refine ⟨⟨A, c, hv, fun j hj => ?_⟩, h.small, h.lt⟩
  obtain ⟨ad, hA, hx⟩ := hc j hj
  refine ⟨ad, hA, cell_only ho hx (fun e => ?_)⟩
  subst hA
  exact hF _ (World.block_lt_of_cell? w _ hx) e ad _ c hv (add_block ad j).symm
theorem Src.nix {w w' : World} {v : Value} {bs : List Nat} (h : Src w v bs) (ho : Only Nix w w') : Src w' v bs := h.only ho (fun _ _ e => e.elim)
theorem Src.of_cells {w : World} {b off c n : Nat} {bs : List Nat} (hn : bs.length = n) (h : ∀ j, (hj : j < bs.length) → w.cell? ⟨b, off + j, none⟩ = some (byt bs[j])) (hs : bs.length ≤ 140737488355328) (hl : ∀ x ∈ bs, x < 256) : Src w (.slice (some ⟨b, off, none⟩) n c) bs :=
  ⟨⟨_, c, by rw [hn], fun j hj => ⟨_, rfl, by rw [Addr.add_lit]; exact h j hj⟩⟩, hs, hl⟩
theorem Src.nil (w : World) : Src w (.slice none 0 0) [] := ⟨⟨none, 0, rfl, fun j hj => by simp at hj⟩, by simp, by simp⟩

/-- The slice v0 holds these slices of bytes. -/
structure Lists (w : World) (v0 : Value) (bss : List (List Nat)) : Prop where
  form : ∃ A c, v0 = .slice A bss.length c ∧ ∀ j, (hj : j < bss.length) → ∃ ad vj, A = some ad ∧ w.cell? (ad.add j) = some vj ∧ Src w vj bss[j]
  small : bss.length ≤ 140737488355328
theorem Lists.nix {w w' : World} {v : Value} {bss : List (List Nat)} (h : Lists w v bss) (ho : Only Nix w w') : Lists w' v bss := by
  obtain ⟨A, c, hv, hc⟩ := h.form
  refine ⟨⟨A, c, hv, fun j hj => ?_⟩, h.small⟩
  obtain ⟨ad, vj, hA, hx, hs⟩ := hc j hj
  exact ⟨ad, vj, hA, cell_keep ho hx, hs.nix ho⟩
theorem Lists.slice {w : World} {v : Value} {bss : List (List Nat)} (h : Lists w v bss) : ∃ A c, v = .slice A bss.length c := by
  obtain ⟨A, c, hv, _⟩ := h.form
  exact ⟨A, c, hv⟩
theorem Src.slice {w : World} {v : Value} {bs : List Nat} (h : Src w v bs) : ∃ A c, v = .slice A bs.length c := by
  obtain ⟨A, c, hv, _⟩ := h.form
  exact ⟨A, c, hv⟩
theorem Src.at_ {w : World} {A : Option Addr} {n c : Nat} {bs : List Nat} (h : Src w (.slice A n c) bs) {k : Nat} (hk : k < bs.length) : ∃ ad, A = some ad ∧ w.cell? (ad.add k) = some (byt bs[k]) := by
  obtain ⟨A', c', hv, hc⟩ := h.form
  injection hv with e1 _ _
  subst e1
  exact hc k hk
theorem Src.len {w : World} {A : Option Addr} {n c : Nat} {bs : List Nat} (h : Src w (.slice A n c) bs) : n = bs.length := by
  obtain ⟨A', c', hv, _⟩ := h.form
  injection hv
theorem Lists.at_ {w : World} {A : Option Addr} {n c : Nat} {bss : List (List Nat)} (h : Lists w (.slice A n c) bss) {k : Nat} (hk : k < bss.length) : ∃ ad A' c', A = some ad ∧ w.cell? (ad.add k) = some (.slice A' bss[k].length c') ∧ Src w (.slice A' bss[k].length c') bss[k] := by
  obtain ⟨A', c', hv, hc⟩ := h.form
  injection hv with e1 _ _
  subst e1
  obtain ⟨ad, vj, hA, hx, hs⟩ := hc k hk
  obtain ⟨B, d, hB⟩ := hs.slice
  subst hB
  exact ⟨ad, B, d, hA, hx, hs⟩

/-- A literal of slices, just made. -/
theorem Lists.of_cells {w : World} {b n c : Nat} {vs : List Value} {bss : List (List Nat)} (hl : vs.length = bss.length) (hn : bss.length = n) (hs : bss.length ≤ 140737488355328)
    (hc : ∀ j, (hj : j < vs.length) → w.cell? ⟨b, j, none⟩ = some vs[j]) (hv : ∀ j, (hj : j < vs.length) → Src w vs[j] (bss[j]'(hl ▸ hj))) : Lists w (.slice (some ⟨b, 0, none⟩) n c) bss :=
  ⟨⟨_, c, by rw [hn], fun j hj => ⟨_, vs[j]'(hl ▸ hj), rfl, by rw [Addr.add_lit, Nat.zero_add]; exact hc j (hl ▸ hj), hv j (hl ▸ hj)⟩⟩, hs⟩

theorem lists1 {w : World} {v : Value} {bs : List Nat} (h : Src w v bs) (t : TypeId) : Lists (w.alloc (.cells #[v] t)) (.slice (some ⟨w.heap.size, 0, none⟩) 1 1) [bs] := by
  have ho := (Only.refl Nix w).alloc (.cells #[v] t)
  refine Lists.of_cells (vs := [v]) rfl rfl (by simp) (fun j hj => ?_) (fun j hj => ?_)
  · match j, hj with
    | 0, _ => simp
  · match j, hj with
    | 0, _ => exact h.nix ho
theorem lists2 {w : World} {v v' : Value} {bs bs' : List Nat} (h : Src w v bs) (h' : Src w v' bs') (t : TypeId) : Lists (w.alloc (.cells #[v, v'] t)) (.slice (some ⟨w.heap.size, 0, none⟩) 2 2) [bs, bs'] := by
  have ho := (Only.refl Nix w).alloc (.cells #[v, v'] t)
  refine Lists.of_cells (vs := [v, v']) rfl rfl (by simp) (fun j hj => ?_) (fun j hj => ?_)
  · match j, hj with
    | 0, _ => simp
    | 1, _ => simp
  · match j, hj with
    | 0, _ => exact h.nix ho
    | 1, _ => exact h'.nix ho
theorem lists3 {w : World} {v v' v'' : Value} {bs bs' bs'' : List Nat} (h : Src w v bs) (h' : Src w v' bs') (h'' : Src w v'' bs'') (t : TypeId) : Lists (w.alloc (.cells #[v, v', v''] t)) (.slice (some ⟨w.heap.size, 0, none⟩) 3 3) [bs, bs', bs''] := by
  have ho := (Only.refl Nix w).alloc (.cells #[v, v', v''] t)
  refine Lists.of_cells (vs := [v, v', v'']) rfl rfl (by simp) (fun j hj => ?_) (fun j hj => ?_)
  · match j, hj with
    | 0, _ => simp
    | 1, _ => simp
    | 2, _ => simp
  · match j, hj with
    | 0, _ => exact h.nix ho
    | 1, _ => exact h'.nix ho
    | 2, _ => exact h''.nix ho
/-- literals of bytes -/
theorem src1 (w : World) (x : Nat) (hx : x < 256) (t : TypeId) : Src (w.alloc (.cells #[.int .u8 (x : Int)] t)) (.slice (some ⟨w.heap.size, 0, none⟩) 1 1) [x] := by
  refine Src.of_cells rfl (fun j hj => ?_) (by simp) (by simpa using hx)
  match j, hj with
  | 0, _ => simp [byt]
theorem src2 (w : World) (x y : Nat) (hx : x < 256) (hy : y < 256) (t : TypeId) : Src (w.alloc (.cells #[.int .u8 (x : Int), .int .u8 (y : Int)] t)) (.slice (some ⟨w.heap.size, 0, none⟩) 2 2) [x, y] := by
  refine Src.of_cells rfl (fun j hj => ?_) (by simp) (by simpa using ⟨hx, hy⟩)
  match j, hj with
  | 0, _ => simp [byt]
  | 1, _ => simp [byt]

/-- The tables of package sums hold what start-up laid. -/
def hi8 : List Nat := [0, 112, 224, 144, 199, 183, 39, 87, 137, 249, 105, 25, 78, 62, 174, 222]
def lo8 : List Nat := [0, 7, 14, 9, 28, 27, 18, 21, 56, 63, 54, 49, 36, 35, 42, 45]
def hi16 : List Nat := [0, 32867, 32963, 160, 33155, 480, 320, 33059, 33539, 864, 960, 33699, 640, 33507, 33347, 544]
def lo16 : List Nat := [0, 32773, 32783, 10, 32795, 30, 20, 32785, 32819, 54, 60, 32825, 40, 32813, 32807, 34]
structure Laid (w : World) : Prop where
  e0 : w.cell? ⟨0, 0, none⟩ = some (iv 8)
  e1 : w.cell? ⟨0, 1, none⟩ = some (iv 7)
  s0 : w.cell? ⟨3, 0, none⟩ = some (iv 16)
  s1 : w.cell? ⟨3, 1, none⟩ = some (iv 32773)
  h8 : ∀ k, k < 16 → w.cell? ⟨1, k, none⟩ = some (iv (hi8.getD k 0 : Nat))
  l8 : ∀ k, k < 16 → w.cell? ⟨2, k, none⟩ = some (iv (lo8.getD k 0 : Nat))
  h16 : ∀ k, k < 16 → w.cell? ⟨4, k, none⟩ = some (iv (hi16.getD k 0 : Nat))
  l16 : ∀ k, k < 16 → w.cell? ⟨5, k, none⟩ = some (iv (lo16.getD k 0 : Nat))
theorem Laid.keep {w w' : World} (h : Laid w) (hk : ∀ a u, a.block ≤ 5 → w.cell? a = some u → w'.cell? a = some u) : Laid w' :=
  ⟨hk _ _ (by decide) h.e0, hk _ _ (by decide) h.e1, hk _ _ (by decide) h.s0, hk _ _ (by decide) h.s1, fun k hl => hk _ _ (by simp) (h.h8 k hl), fun k hl => hk _ _ (by simp) (h.l8 k hl), fun k hl => hk _ _ (by simp) (h.h16 k hl), fun k hl => hk _ _ (by simp) (h.l16 k hl)⟩
theorem Laid.nix {w w' : World} (h : Laid w) (ho : Only Nix w w') : Laid w' := h.keep fun _ _ _ hc => cell_keep ho hc

theorem tab8 : ∀ v, v < 256 → hi8.getD (v / 16) 0 ^^^ lo8.getD (v % 16) 0 = nous 8 7 8 v := by decide +kernel
theorem tab16 : ∀ v, v < 256 → hi16.getD (v / 16) 0 ^^^ lo16.getD (v % 16) 0 = nous 16 32773 16 v := by decide +kernel
theorem tabLt : ∀ k, k < 16 → hi8.getD k 0 < 65536 ∧ lo8.getD k 0 < 65536 ∧ hi16.getD k 0 < 65536 ∧ lo16.getD k 0 < 65536 := by decide +kernel
theorem and15 (v : Nat) (hv : v < 256) : bits .and .i64 (v : Int) 15 = ((v % 16 : Nat) : Int) := by
  have := i64_and_nat v 15 (by omega) (by decide)
  rw [show (15 : Nat) = 2 ^ 4 - 1 from rfl, Nat.and_two_pow_sub_one_eq_mod] at this
  exact this

set_option maxHeartbeats 400000 in
theorem of8 {w : World} (h : Laid w) (z : Int) (v : Nat) (hz : z = (v : Int)) (hv : v < 256) :
    Calls Tryd.prog 21 #[iv z] w fun e w' => e = .returned (iv (nous 8 7 8 v : Nat)) ∧ Only Nix w w' := by
  subst hz
  have h1 := h.h8 (v / 16) (by omega)
  have h2 := h.l8 (v % 16) (by omega)
  have hr : Hid (bits .xor .i64 (hi8.getD (v / 16) 0 : Nat) (lo8.getD (v % 16) 0 : Nat) = ((nous 8 7 8 v : Nat) : Int)) := by
    show _ = _
    have a := (tabLt (v / 16) (by omega)).1
    have b := (tabLt (v % 16) (by omega)).2.1
    rw [i64_xor_nat _ _ (by omega) (by omega), tab8 v hv]
  generalize hi8.getD (v / 16) 0 = X at *
  generalize lo8.getD (v % 16) 0 = Y at *
  have e1 := and15 v hv
  have i1 : ((v : Int) / 16).toNat = v / 16 := by omega
  have i2 : 0 ≤ (v : Int) / 16 := by omega
  have i3 : (v : Int) / 16 < 16 := by omega
  have i4 : 0 ≤ ((v % 16 : Nat) : Int) := by omega
  have i5 : ((v % 16 : Nat) : Int) < 16 := by omega
  go_enter Tryd.func21, Tryd.ntmps21
  go_wp2
  go_quiet (fail)
  go_wp2
  go_ret
  exact ⟨ret1 hr.out, (Only.refl _ _).drewN _⟩

set_option maxHeartbeats 400000 in
theorem of16 {w : World} (h : Laid w) (z : Int) (v : Nat) (hz : z = (v : Int)) (hv : v < 256) :
    Calls Tryd.prog 24 #[iv z] w fun e w' => e = .returned (iv (nous 16 32773 16 v : Nat)) ∧ Only Nix w w' := by
  subst hz
  have h1 := h.h16 (v / 16) (by omega)
  have h2 := h.l16 (v % 16) (by omega)
  have hr : Hid (bits .xor .i64 (hi16.getD (v / 16) 0 : Nat) (lo16.getD (v % 16) 0 : Nat) = ((nous 16 32773 16 v : Nat) : Int)) := by
    show _ = _
    have a := (tabLt (v / 16) (by omega)).2.2.1
    have b := (tabLt (v % 16) (by omega)).2.2.2
    rw [i64_xor_nat _ _ (by omega) (by omega), tab16 v hv]
  generalize hi16.getD (v / 16) 0 = X at *
  generalize lo16.getD (v % 16) 0 = Y at *
  have e1 := and15 v hv
  have i1 : ((v : Int) / 16).toNat = v / 16 := by omega
  have i2 : 0 ≤ (v : Int) / 16 := by omega
  have i3 : (v : Int) / 16 < 16 := by omega
  have i4 : 0 ≤ ((v % 16 : Nat) : Int) := by omega
  have i5 : ((v % 16 : Nat) : Int) < 16 := by omega
  go_enter Tryd.func24, Tryd.ntmps24
  go_wp2
  go_quiet (fail)
  go_wp2
  go_ret
  exact ⟨ret1 hr.out, (Only.refl _ _).drewN _⟩
end Go.Proofs.YtmnnjbamphoghaaDoor
