/-
  The Reader of package bits: what it is in memory ('Rd'), and the contracts of its small functions.
-/
import Derived.Test.YtliemhadgbjjiaaMem
import Derived.Test.YtliemhadgbjjiaaMath
namespace Go.Proofs.Ytliemhadgbjjiaa
open Go.RowKit

/-- a byte as a value -/
def byt (x : Nat) : Value := .int .u8 (x : Int)

/-- At block r lies a Reader of the bytes bs (in the slice v), a bits of which are behind. -/
structure Rd (w : World) (r : Nat) (v : Value) (bs : List Nat) (a : Nat) : Prop where
  box : Box w r 88 #[.int .i64 (a : Int), v]
  own : w.ownsRow 0 5 1 v bs.length (bs.map byt)
  lt : ∀ x ∈ bs, x < 256
  le : a ≤ 8 * bs.length
  small : bs.length ≤ 140737488355328

section
variable {w w' : World} {r : Nat} {v : Value} {bs : List Nat} {a : Nat}
theorem Rd.cell0 (h : Rd w r v bs a) : w.cell? ⟨r, 0, none⟩ = some (.int .i64 (a : Int)) := by rw [h.box.cell]; rfl
theorem Rd.cell1 (h : Rd w r v bs a) : w.cell? ⟨r, 1, none⟩ = some v := by rw [h.box.cell]; rfl
theorem Rd.slice (h : Rd w r v bs a) : ∃ A c, v = .slice A bs.length c := by
  rcases h.own.2 with ⟨rfl, hn⟩ | ⟨g, cap, _, rfl, _⟩
  · exact ⟨none, 0, by rw [hn]⟩
  · exact ⟨_, _, rfl⟩
theorem Rd.slice_pos (h : Rd w r v bs a) (hp : 0 < bs.length) : ∃ g c, v = .slice (some ⟨g, 0, none⟩) bs.length c ∧ g < w.heap.size ∧ ∀ j, (hj : j < bs.length) → w.cell? ⟨g, j, none⟩ = some (byt bs[j]) := by
  rcases h.own.2 with ⟨rfl, hn⟩ | ⟨g, cap, cur, rfl, _, hg, _⟩
  · omega
  · refine ⟨g, cap, rfl, (Array.getElem?_eq_some_iff.1 hg).1, fun j hj => ?_⟩
    rw [h.own.cellAt j (by omega)]
    simp [hj]
theorem Rd.ne (h : Rd w r v bs a) : v.ownBlock ≠ some r := owns_box h.own h.box (by decide)
theorem Rd.keep {F : Nat → Prop} (h : Rd w r v bs a) (ho : Only F w w') (hr : ¬ F r) (hv : ∀ g, v.ownBlock = some g → ¬ F g) : Rd w' r v bs a :=
  ⟨h.box.only ho hr, owns_only h.own ho hv, h.lt, h.le, h.small⟩
theorem Rd.nix (h : Rd w r v bs a) (ho : Only Nix w w') : Rd w' r v bs a := h.keep ho (fun e => e) (fun _ _ e => e)
theorem Rd.drewN (h : Rd w r v bs a) (n : Nat) : Rd (w.drewN n) r v bs a := h.nix ((Only.refl _ _).drewN n)
theorem Rd.alloc (h : Rd w r v bs a) (o : Obj) : Rd (w.alloc o) r v bs a := h.nix ((Only.refl _ _).alloc o)
theorem Rd.to (h : Rd w r v bs a) (a' : Nat) (ha : a' ≤ 8 * bs.length) : Rd (w.setCell ⟨r, 0, none⟩ (.int .i64 (a' : Int))) r v bs a' := by
  have ho : Only (Just r) w (w.setCell ⟨r, 0, none⟩ (.int .i64 (a' : Int))) := (Only.refl (Just r) w).setCell (p := ⟨r, 0, none⟩) (.inl rfl) _
  refine ⟨?_, owns_only h.own ho (fun g hg e => h.ne (by rw [hg]; exact congrArg some e)), h.lt, ha, h.small⟩
  simpa using h.box.put 0 (.int .i64 (a' : Int))
theorem Rd.mem (h : Rd w r v bs a) : r < w.heap.size := h.box.lt
end

set_option maxHeartbeats 400000 in
theorem room_any (b a : Nat) (w : World) (hc : w.cell? ⟨b, 0, none⟩ = some (.int .i64 a)) :
    Calls Try.prog 65 #[.pointer (some ⟨b, 0, none⟩)] w fun e w' => e = .returned (.int .i64 (8 - (a : Int) % 8)) ∧ w = w' := by
  go_enter Try.func65, Try.ntmps65
  go_wp2
  go_ret
  exact ⟨rfl, rfl⟩

set_option maxHeartbeats 400000 in
theorem pad_any (b a : Nat) (w : World) (hc : w.cell? ⟨b, 0, none⟩ = some (.int .i64 a)) :
    Calls Try.prog 45 #[.pointer (some ⟨b, 0, none⟩)] w fun e w' => e = .returned (.int .i64 ((8 - (a : Int) % 8) % 8)) ∧ w = w' := by
  go_enter Try.func45, Try.ntmps45
  go_wp2_with (go_at_call 65; refine (room_any _ _ _ hc).mono ?_; rintro e w' ⟨rfl, rfl⟩)
  go_ret
  exact ⟨rfl, rfl⟩

/-- how many bits up to the next byte's beginning -/
def padN (a : Nat) : Nat := (8 - a % 8) % 8
theorem padN_le (a : Nat) : padN a ≤ 7 := by unfold padN; omega
theorem pad_nat (b a : Nat) (w : World) (hc : w.cell? ⟨b, 0, none⟩ = some (.int .i64 a)) :
    Calls Try.prog 45 #[.pointer (some ⟨b, 0, none⟩)] w fun e w' => e = .returned (.int .i64 (padN a : Int)) ∧ w = w' := by
  have h := pad_any b a w hc
  rw [show ((8 - (a : Int) % 8) % 8) = (padN a : Int) from by unfold padN; omega] at h
  exact h

set_option maxHeartbeats 400000 in
theorem forth_any (b a : Nat) (n : Int) (w : World) (hc : w.cell? ⟨b, 0, none⟩ = some (.int .i64 a)) (hf : w.frozen? ⟨b, 0, none⟩ = false) (h0 : 0 ≤ n) (h1 : (a : Int) + n ≤ 4611686018427387904) :
    Calls Try.prog 46 #[.pointer (some ⟨b, 0, none⟩), .int .i64 n] w fun e w' => e = .returned (.tuple #[]) ∧ w.setCell ⟨b, 0, none⟩ (.int .i64 ((a : Int) + n)) = w' := by
  go_enter Try.func46, Try.ntmps46
  go_wp2
  go_end0
  exact ⟨rfl, rfl⟩

set_option maxHeartbeats 400000 in
theorem share_any (b a : Nat) (n : Int) (w : World) (hc : w.cell? ⟨b, 0, none⟩ = some (.int .i64 a)) (h0 : 0 ≤ n) :
    Calls Try.prog 67 #[.pointer (some ⟨b, 0, none⟩), .int .i64 n] w fun e w' => e = .returned (.tuple #[.int .i64 (min n (8 - (a : Int) % 8)), .int .i64 (8 - (a : Int) % 8 - min n (8 - (a : Int) % 8))]) ∧ w = w' := by
  by_cases h : n ≤ 8 - (a : Int) % 8
  · go_enter Try.func67, Try.ntmps67
    go_wp2_with (go_at_call 65; refine (room_any _ _ _ hc).mono ?_; rintro e w' ⟨rfl, rfl⟩)
    all_goals go_ret2
    all_goals exact ⟨ret2 (by omega) (by omega), rfl⟩
  · go_enter Try.func67, Try.ntmps67
    go_wp2_with (go_at_call 65; refine (room_any _ _ _ hc).mono ?_; rintro e w' ⟨rfl, rfl⟩)
    all_goals go_ret2
    all_goals exact ⟨ret2 (by omega) (by omega), rfl⟩

/-- .. in natural numbers: how many bits of this byte, and how many behind them -/
theorem share_nat (b a n : Nat) (w : World) (hc : w.cell? ⟨b, 0, none⟩ = some (.int .i64 a)) :
    Calls Try.prog 67 #[.pointer (some ⟨b, 0, none⟩), .int .i64 (n : Int)] w fun e w' => ∃ m q : Nat, (m ≤ n ∧ m + q = 8 - a % 8 ∧ (m = n ∨ q = 0)) ∧ e = .returned (.tuple #[.int .i64 (m : Int), .int .i64 (q : Int)]) ∧ w = w' := by
  refine (share_any b a n w hc (by omega)).mono fun e w' hh => ?_
  refine ⟨min n (8 - a % 8), 8 - a % 8 - min n (8 - a % 8), by omega, ?_, hh.2⟩
  rw [hh.1]
  exact ret2 (by omega) (by omega)

set_option maxHeartbeats 400000 in
theorem size_any (b n c : Nat) (A : Option Addr) (w : World) (hc : w.cell? ⟨b, 1, none⟩ = some (.slice A n c)) (hn : n ≤ 140737488355328) :
    Calls Try.prog 49 #[.pointer (some ⟨b, 0, none⟩)] w fun e w' => e = .returned (.int .i64 (8 * (n : Int))) ∧ w = w' := by
  go_enter Try.func49, Try.ntmps49
  go_wp2
  go_ret
  exact ⟨rfl, rfl⟩

set_option maxHeartbeats 400000 in
theorem maybe_yes (n : Int) (w : World) (h0 : 0 ≤ n) (h1 : n ≤ 48) :
    Calls Try.prog 60 #[.int .i64 n] w fun e w' => e = .returned (.bool true) ∧ w = w' := by
  go_enter Try.func60, Try.ntmps60
  go_wp2
  go_ret
  exact ⟨rfl, rfl⟩

set_option maxHeartbeats 400000 in
theorem maybe_no (n : Int) (w : World) (h : n < 0 ∨ 48 < n) :
    Calls Try.prog 60 #[.int .i64 n] w fun e w' => e = .returned (.bool false) ∧ w = w' := by
  rcases h with h | h
  · have hd : decide (0 ≤ n) = false := by simp; omega
    go_enter Try.func60, Try.ntmps60
    go_wp2
    go_ret
    exact ⟨rfl, rfl⟩
  · have hd : decide (0 ≤ n) = true := by simp; omega
    have hd2 : decide (n ≤ 48) = false := by simp; omega
    go_enter Try.func60, Try.ntmps60
    go_wp2
    go_ret
    exact ⟨rfl, rfl⟩

set_option maxHeartbeats 400000 in
theorem at_any (b a : Nat) (w : World) (hc : w.cell? ⟨b, 0, none⟩ = some (.int .i64 a)) :
    Calls Try.prog 26 #[.pointer (some ⟨b, 0, none⟩)] w fun e w' => e = .returned (.int .i64 a) ∧ w = w' := by
  go_enter Try.func26, Try.ntmps26
  go_wp2
  go_ret
  exact ⟨rfl, rfl⟩

set_option maxHeartbeats 400000 in
theorem left_raw (b a n c : Nat) (A : Option Addr) (w : World) (hc0 : w.cell? ⟨b, 0, none⟩ = some (.int .i64 a)) (hc : w.cell? ⟨b, 1, none⟩ = some (.slice A n c)) (hn : n ≤ 140737488355328) (ha : a ≤ 8 * n) :
    Calls Try.prog 80 #[.pointer (some ⟨b, 0, none⟩)] w fun e w' => e = .returned (.int .i64 (8 * (n : Int) - a)) ∧ ∃ k, w' = w.drewN k := by
  go_enter Try.func80, Try.ntmps80
  go_wp2
  go_quiet ((go_at_call 49; exact still_at (size_any _ _ _ _ _ hc hn)))
  go_wp2
  go_ret
  exact ⟨rfl, ⟨_, rfl⟩⟩

theorem left_any {w : World} {r : Nat} {v : Value} {bs : List Nat} {a : Nat} (h : Rd w r v bs a) :
    Calls Try.prog 80 #[.pointer (some ⟨r, 0, none⟩)] w fun e w' => e = .returned (.int .i64 (8 * (bs.length : Int) - a)) ∧ ∃ k, w' = w.drewN k := by
  obtain ⟨A, c, hv⟩ := h.slice
  have h1 := h.cell1
  rw [hv] at h1
  exact left_raw r a _ c A w h.cell0 h1 h.small h.le

end Go.Proofs.Ytliemhadgbjjiaa
