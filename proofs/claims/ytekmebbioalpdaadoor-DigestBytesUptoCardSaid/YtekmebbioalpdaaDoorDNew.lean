/-
  New, walked.
-/
import Derived.Test.YtekmebbioalpdaaDoorDEnded
namespace Go.Proofs.YtekmebbioalpdaaDoor
open Go.RowKit

theorem Tryd.info_digest : (Tryd.prog.info? 58).map (fun i => (i.zero, i.size)) = some (some (.agg stz.toArray), 69) := by kernel_rfl
theorem stc0_is : stc0 = stc Q0 (List.replicate 64 0) ((0 : Nat) : Int) := rfl
theorem st_new {w : World} {g : Nat} (h : Box w g 58 stc0.toArray) : St w g 58 [] := by
  refine ⟨List.replicate 64 0, ?_, ⟨by simp, fun x hx => by rw [List.eq_of_mem_replicate hx]; decide, by simp⟩⟩
  rw [stc0_is] at h
  exact h
theorem fill_stc0 : List.foldl (fun (cs : Array Value) (x : Value × Nat) => cs.setIfInBounds x.snd x.fst) stz.toArray stc0.zipIdx = stc0.toArray := by kernel_rfl
set_option maxHeartbeats 1000000 in
theorem new_any (w : World) : Calls Tryd.prog 11 #[] w fun e w' => ∃ g, e = .returned (.pointer (some ⟨g, 0, none⟩)) ∧ w.heap.size ≤ g ∧ St w' g 58 [] ∧ Only Nix w w' := by
  have hz := (zero_of_info Tryd.info_digest).1
  have hl : stz.length = 69 := rfl
  have HB := Lib.hid (begun_any w)
  have hSl : stc0.length = 69 := rfl
  have hf := Lib.hid fill_stc0
  obtain ⟨S, hS⟩ : ∃ S, Hid (stc0 = S) := ⟨_, Lib.hid rfl⟩
  rw [hS.out] at HB hSl hf
  go_enter Tryd.func11, Tryd.ntmps11
  go_wp2_with fail
  refine (HB.out).mono ?_
  rintro e w1 ⟨rfl, o1⟩
  go_wp2
  rw [hf.out, ← hS.out]
  go_ret
  exact ⟨w1.heap.size, rfl, o1.size, st_new (Box.new _ _ _), o1.alloc _⟩

/-- The slice v0 holds slices that hold these bytes. -/
structure Lists (w : World) (v0 : Value) (bss : List (List Nat)) : Prop where
  form : ∃ A c, v0 = .slice A bss.length c ∧ ∀ j, (hj : j < bss.length) → ∃ ad A' c', A = some ad ∧ w.cell? (ad.add j) = some (.slice A' bss[j].length c') ∧ bss[j].length ≤ c' ∧ Src w (.slice A' bss[j].length c') bss[j]
  small : bss.length ≤ 140737488355328
theorem Lists.nix {w w' : World} {v : Value} {bss : List (List Nat)} (h : Lists w v bss) (ho : Only Nix w w') : Lists w' v bss := by
  obtain ⟨A, c, hv, hc⟩ := h.form
  refine ⟨⟨A, c, hv, fun j hj => ?_⟩, h.small⟩
  obtain ⟨ad, A', c', hA, hx, hl, hs⟩ := hc j hj
  exact ⟨ad, A', c', hA, cell_keep ho hx, hl, hs.nix ho⟩
theorem Lists.slice {w : World} {v : Value} {bss : List (List Nat)} (h : Lists w v bss) : ∃ A c, v = .slice A bss.length c := by
  obtain ⟨A, c, hv, _⟩ := h.form
  exact ⟨A, c, hv⟩
theorem Lists.at_ {w : World} {A : Option Addr} {n c : Nat} {bss : List (List Nat)} (h : Lists w (.slice A n c) bss) {k : Nat} (hk : k < bss.length) : ∃ ad A' c', A = some ad ∧ w.cell? (ad.add k) = some (.slice A' bss[k].length c') ∧ bss[k].length ≤ c' ∧ Src w (.slice A' bss[k].length c') bss[k] := by
  obtain ⟨A', c', hv, hc⟩ := h.form
  injection hv with e1 _ _
  subst e1
  exact hc k hk
theorem Lists.nil (w : World) : Lists w (.slice none 0 0) [] := ⟨⟨none, 0, rfl, fun j hj => by simp at hj⟩, by simp⟩
theorem Lists.len {w : World} {A : Option Addr} {n c : Nat} {bss : List (List Nat)} (h : Lists w (.slice A n c) bss) : n = bss.length := by
  obtain ⟨A', c', hv, _⟩ := h.form
  injection hv
/-- a literal of one slice -/
theorem lists1 {w : World} {A : Option Addr} {n c : Nat} {bs : List Nat} (h : Src w (.slice A n c) bs) (hc : n ≤ c) (t : TypeId) : Lists (w.alloc (.cells #[.slice A n c] t)) (.slice (some ⟨w.heap.size, 0, none⟩) 1 1) [bs] := by
  have ho := (Only.refl Nix w).alloc (.cells #[.slice A n c] t)
  obtain rfl := h.len
  refine ⟨⟨_, 1, rfl, fun j hj => ?_⟩, by simp⟩
  match j, hj with
  | 0, _ => exact ⟨_, A, c, rfl, by rw [Addr.add_lit]; simp, hc, h.nix ho⟩
/-- what lies in memory that was there -/
theorem src_block {w : World} {ad : Addr} {n c b : Nat} {bs : List Nat} (h : Src w (.slice (some ad) n c) bs) (hb : w.heap.size ≤ b) (hn : 0 < bs.length) : ad.block ≠ b := by
  obtain ⟨ad', e, hc⟩ := h.at_ hn
  injection e with e
  subst e
  have := World.block_lt_of_cell? w _ hc
  rw [add_block] at this
  omega

/-- .. and nothing of it lies in block b -/
structure ListsN (b : Nat) (w : World) (v0 : Value) (bss : List (List Nat)) : Prop where
  form : ∃ A c, v0 = .slice A bss.length c ∧ ∀ j, (hj : j < bss.length) → ∃ ad A' c', A = some ad ∧ ad.block ≠ b ∧ w.cell? (ad.add j) = some (.slice A' bss[j].length c') ∧ bss[j].length ≤ c' ∧ Src w (.slice A' bss[j].length c') bss[j] ∧ (∀ a', A' = some a' → 0 < bss[j].length → a'.block ≠ b)
  small : bss.length ≤ 140737488355328
theorem src_away {b : Nat} {w w' : World} {A : Option Addr} {n c : Nat} {bs : List Nat} (h : Src w (.slice A n c) bs) (ho : Only (Just b) w w') (hA : ∀ a, A = some a → 0 < bs.length → a.block ≠ b) : Src w' (.slice A n c) bs := by
  by_cases h0 : 0 < bs.length
  · refine h.only ho (fun i _ e ad n' c' e2 => ?_)
    injection e2 with e2
    unfold Just at e
    subst e
    exact hA ad e2 h0
  · obtain rfl : bs = [] := List.eq_nil_of_length_eq_zero (by omega)
    have hl := h.len
    subst hl
    exact ⟨⟨A, c, rfl, fun j hj => by simp at hj⟩, by simp, by simp⟩
theorem ListsN.only {b : Nat} {w w' : World} {v : Value} {bss : List (List Nat)} (h : ListsN b w v bss) (ho : Only (Just b) w w') : ListsN b w' v bss := by
  obtain ⟨A, c, hv, hc⟩ := h.form
  refine ⟨⟨A, c, hv, fun j hj => ?_⟩, h.small⟩
  obtain ⟨ad, A', c', hA, hb, hx, hl, hs, hn⟩ := hc j hj
  exact ⟨ad, A', c', hA, hb, cell_only ho hx (fun e => by unfold Just at e; rw [add_block] at e; exact hb e), hl, src_away hs ho hn, hn⟩
theorem ListsN.at_ {b : Nat} {w : World} {A : Option Addr} {n c : Nat} {bss : List (List Nat)} (h : ListsN b w (.slice A n c) bss) {k : Nat} (hk : k < bss.length) : ∃ ad A' c', A = some ad ∧ ad.block ≠ b ∧ w.cell? (ad.add k) = some (.slice A' bss[k].length c') ∧ bss[k].length ≤ c' ∧ Src w (.slice A' bss[k].length c') bss[k] ∧ (∀ a', A' = some a' → 0 < bss[k].length → a'.block ≠ b) := by
  obtain ⟨A', c', hv, hc⟩ := h.form
  injection hv with e1 _ _
  subst e1
  exact hc k hk
theorem ListsN.len {b : Nat} {w : World} {A : Option Addr} {n c : Nat} {bss : List (List Nat)} (h : ListsN b w (.slice A n c) bss) : n = bss.length := by
  obtain ⟨A', c', hv, _⟩ := h.form
  injection hv
/-- what was there ahead of block b -/
theorem Lists.away {b : Nat} {w0 u : World} {v : Value} {bss : List (List Nat)} (h : Lists w0 v bss) (ho : Only Nix w0 u) (hb : w0.heap.size ≤ b) : ListsN b u v bss := by
  obtain ⟨A, c, hv, hc⟩ := h.form
  refine ⟨⟨A, c, hv, fun j hj => ?_⟩, h.small⟩
  obtain ⟨ad, A', c', hA, hx, hl, hs⟩ := hc j hj
  refine ⟨ad, A', c', hA, ?_, cell_keep ho hx, hl, hs.nix ho, fun a' e hn => ?_⟩
  · have := World.block_lt_of_cell? w0 _ hx
    rw [add_block] at this
    omega
  · subst e
    exact src_block hs hb hn
/-- a literal of one slice -/
theorem lists1N {b : Nat} {w : World} {A : Option Addr} {n c : Nat} {bs : List Nat} (h : Src w (.slice A n c) bs) (hc : n ≤ c) (hb : b < w.heap.size) (hA : ∀ a', A = some a' → 0 < bs.length → a'.block ≠ b) (t : TypeId) : ListsN b (w.alloc (.cells #[.slice A n c] t)) (.slice (some ⟨w.heap.size, 0, none⟩) 1 1) [bs] := by
  have ho := (Only.refl Nix w).alloc (.cells #[.slice A n c] t)
  obtain rfl := h.len
  refine ⟨⟨_, 1, rfl, fun j hj => ?_⟩, by simp⟩
  match j, hj with
  | 0, _ => exact ⟨_, A, c, rfl, by simp; omega, by rw [Addr.add_lit]; simp, hc, h.nix ho, hA⟩

def AddP (u : World) (b : Nat) (L : List Nat) (bss : List (List Nat)) (s10 : Value) (wr : World) : Prop :=
  ∃ j : Nat, j ≤ bss.length ∧ s10 = iv j ∧ St wr b 58 (L ++ (bss.take j).flatten) ∧ Only (Just b) u wr
theorem flat_len (bss : List (List Nat)) (j : Nat) : (bss.take j).flatten.length ≤ bss.flatten.length := by
  have : bss.flatten = (bss.take j).flatten ++ (bss.drop j).flatten := by rw [← List.flatten_append, List.take_append_drop]
  rw [this, List.length_append]
  omega
theorem flat_step (bss : List (List Nat)) (j : Nat) (h : j < bss.length) : (bss.take (j + 1)).flatten = (bss.take j).flatten ++ bss[j] := by
  rw [List.take_succ_eq_append_getElem h, List.flatten_append]
  simp
set_option maxHeartbeats 1000000 in
theorem add_any {u : World} (hL : Laid u) (b : Nat) (hb2 : 2 ≤ b) (L : List Nat) (hS : St u b 58 L) (A : Option Addr) (m c : Nat) (bss : List (List Nat)) (hl : ListsN b u (.slice A m c) bss) (hlen : L.length + bss.flatten.length < 100000000000) :
    Calls Tryd.prog 12 #[.pointer (some ⟨b, 0, none⟩), .slice A m c] u fun e w' => e = .returned (.tuple #[]) ∧ St w' b 58 (L ++ bss.flatten) ∧ Only (Just b) u w' := by
  obtain rfl := hl.len
  have hsm := hl.small
  have HS := Lib.hid hS
  have HL : Hid (∀ x, Only (Just b) u x → Laid x) := Lib.hid (fun x o => hL.only o (fun e => by unfold Just at e; omega) (fun e => by unfold Just at e; omega))
  have Hl := Lib.hid hl
  clear hS hL hl
  go_enter Tryd.func12, Tryd.ntmps12
  go_wp2
  go_loopw [10] (fun s10 wr => AddP u b L bss s10 wr) (fun s10 _ => bss.length - (intOf s10).toNat)
  case atStart =>
    refine ⟨0, by omega, rfl, ?_, Only.refl _ _⟩
    simpa using HS.out
  case round =>
    obtain ⟨j, hj, rfl, hS, ho⟩ := hrel
    by_cases hlt : j < bss.length
    · obtain ⟨ad, A', c', rfl, hadb, hx, hle, hs, hne⟩ := (Hl.out.only ho).at_ hlt
      have hfs := Lib.hid (flat_step bss j hlt)
      have hfl := flat_len bss (j + 1)
      have hfl2 : (bss.take (j + 1)).flatten.length = (bss.take j).flatten.length + bss[j].length := by rw [hfs.out, List.length_append]
      have HT := Lib.hid (take_any (HL.out _ ho) b 58 hb2 _ hS A' _ c' _ hs hle hne (by rw [List.length_append]; omega))
      rw [List.append_assoc, ← hfs.out] at HT
      clear hS hs hfl hfl2 hne hfs
      generalize bss[j].length = lj at *
      have hlt2 : (j : Int) < (bss.length : Int) := by omega
      go_wp2_with fail
      refine (HT.out).mono ?_
      rintro e w2 ⟨rfl, hS2, o2⟩
      have HS2 := Lib.hid hS2
      clear hS2
      go_wp2
      go_roundw
      case rel => exact ⟨j + 1, by omega, by go_num, HS2.out, ho.trans o2⟩
      case measure => simp [intOf]; omega
    · obtain rfl : j = bss.length := by omega
      rw [List.take_length] at hS
      have hd : decide (bss.length < bss.length) = false := by simp
      go_wp2
      go_end0
      exact ⟨rfl, hS, ho⟩
end Go.Proofs.YtekmebbioalpdaaDoor
