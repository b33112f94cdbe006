/-
  Numbers in bytes: put, putLow.
-/
import Derived.Test.YtphpciglpnbblaaDoorTU
namespace Go.Proofs.YtphpciglpnbblaaDoor
open Go.RowKit Go.Shelf

/-- four bytes of a number, the lowest one first -/
def le (n : Nat) : List Nat := (List.range 4).map fun j => n / 2 ^ (8 * j) % 256
theorem le_len (n : Nat) : (le n).length = 4 := by simp [le]
theorem le_lt (n : Nat) : ∀ x ∈ le n, x < 256 := fun x hx => by
  obtain ⟨j, _, rfl⟩ := List.mem_map.1 hx
  exact Nat.mod_lt _ (by decide)
theorem le_take (n j : Nat) (h : j < 4) : (le n).take (j + 1) = (le n).take j ++ [n / 2 ^ (8 * j) % 256] := by
  rw [List.take_succ_eq_append_getElem (by rw [le_len]; exact h)]
  simp [le]
def PutRel (w : World) (base : Nat) (v : Value) (xs : List Nat) (m n : Nat) (s0 s7 : Value) (wr : World) : Prop :=
  ∃ j : Nat, j ≤ m ∧ s7 = iv ((m : Int) - 1 - (j : Int)) ∧ Owns wr base 5 byt s0 (xs ++ (be m n).take j) ∧ Only (Row v) w wr ∧ Mvd w v s0
/-- what put answers: so many bytes more -/
def PutR (w : World) (base : Nat) (v : Value) (xs ys : List Nat) (e : Ending) (w' : World) : Prop := ∃ v', e = .returned v' ∧ Owns w' base 5 byt v' (xs ++ ys) ∧ Only (Row v) w w' ∧ Mvd w v v'
set_option maxHeartbeats 4000000 in
theorem put_any {w : World} {base : Nat} {v : Value} {xs : List Nat} (m n : Nat) (hown : Owns w base 5 byt v xs) (hb : base ≤ w.heap.size) (hm : m ≤ 8) (_hn : n < 9223372036854775808) (hx : xs.length ≤ 90000) :
    Calls Tryd.prog 38 #[v, iv m, iv n] w fun e w' => PutR w base v xs (be m n) e w' := by
  have HOwn := Lib.hid hown
  clear hown
  go_enter Tryd.func38, Tryd.ntmps38
  go_wp2
  go_loopw [0, 7] (fun s0 s7 wr => PutRel w base v xs m n s0 s7 wr) (fun _ s7 _ => (intOf s7 + 1).toNat)
  case atStart => exact ⟨0, Nat.zero_le _, by go_num, by simpa using HOwn.out, Only.refl _ _, .inl rfl⟩
  case round =>
    obtain ⟨j, hj, rfl, ho, hw, hmv⟩ := hrel
    have HO := Lib.hid ho
    have HW := Lib.hid hw
    have HMv := Lib.hid hmv
    have hsz := hw.size
    clear ho hw hmv
    by_cases hlt : j < m
    · obtain ⟨K, hK⟩ : ∃ K : Nat, m - 1 - j = K := ⟨_, rfl⟩
      have hKi : (m : Int) - 1 - (j : Int) = (K : Int) := by omega
      have HT := Lib.hid (be_take m n j hlt)
      rw [hK] at HT
      have hK7 : K ≤ 7 := by omega
      rw [hKi]
      have HK := Lib.hid hKi
      clear hK hKi
      have HC : Hid ((wr.alloc (.cells #[.int .u8 ((n : Int) / 2 ^ (8 * K) % 256)] 5)).cell? ⟨wr.heap.size, 0, none⟩ = some (byt (n / 2 ^ (8 * K) % 256))) := Lib.hid (by
        have e : (n : Int) / 2 ^ (8 * K) % 256 = ((n / 2 ^ (8 * K) % 256 : Nat) : Int) := by rw [pow_cast, Int.natCast_emod, Int.natCast_ediv]; rfl
        rw [e]
        exact (Box.new wr 5 #[.int .u8 ((n / 2 ^ (8 * K) % 256 : Nat) : Int)]).cell 0)
      have hl1 : (xs ++ (be m n).take j).length ≤ 100000 := by rw [List.length_append, List.length_take, be_len]; omega
      have HL1 := Lib.hid hl1
      have HSz := Lib.hid hsz
      clear hl1 hsz
      go_wp2_with (at_builtin; refine app_byte rfl (.tmp 14) (.tmp 20) rfl base u0 (xs ++ (be m n).take j) rfl ?own1 wr.heap.size (n / 2 ^ (8 * K) % 256) rfl HC.out HL1.out ?base1 ?rest1)
      case own1 => exact World.ownsRow.alloc HO.out _
      case base1 => have := HSz.out; simp; omega
      case rest1 =>
        intro v1 w1 r1 g1 m1
        have HO1 := Lib.hid r1
        have HW1 := Lib.hid (grow_row HW.out HMv.out g1 (by simpa using m1))
        clear r1 g1 m1
        go_wp2
        go_roundw
        case rel => exact ⟨j + 1, hlt, by rw [← HK.out]; go_num, by rw [HT.out, ← List.append_assoc]; simpa using HO1.out, HW1.out.1, HW1.out.2⟩
        case measure => simp [intOf]
    · obtain rfl : j = m := by omega
      have hneg : (j : Int) - 1 - (j : Int) = -1 := by omega
      rw [hneg]
      have HE : Hid ((be j n).take j = be j n) := Lib.hid (List.take_of_length_le (by rw [be_len]; exact Nat.le_refl _))
      clear hneg
      go_wp2
      go_ret
      exact ⟨_, rfl, by rw [← HE.out]; exact HO.out, HW.out, HMv.out⟩
def PlRel (w : World) (base : Nat) (v : Value) (xs : List Nat) (n : Nat) (s0 s6 : Value) (wr : World) : Prop :=
  ∃ j : Nat, j ≤ 4 ∧ s6 = iv (j : Int) ∧ Owns wr base 5 byt s0 (xs ++ (le n).take j) ∧ Only (Row v) w wr ∧ Mvd w v s0
set_option maxHeartbeats 4000000 in
theorem putLow_any {w : World} {base : Nat} {v : Value} {xs : List Nat} (n : Nat) (hown : Owns w base 5 byt v xs) (hb : base ≤ w.heap.size) (_hn : n < 9223372036854775808) (hx : xs.length ≤ 90000) :
    Calls Tryd.prog 26 #[v, iv n] w fun e w' => PutR w base v xs (le n) e w' := by
  have HOwn := Lib.hid hown
  clear hown
  go_enter Tryd.func26, Tryd.ntmps26
  go_wp2
  go_loopw [0, 6] (fun s0 s6 wr => PlRel w base v xs n s0 s6 wr) (fun _ s6 _ => (4 - intOf s6).toNat)
  case atStart => exact ⟨0, Nat.zero_le _, rfl, by simpa using HOwn.out, Only.refl _ _, .inl rfl⟩
  case round =>
    obtain ⟨j, hj, rfl, ho, hw, hmv⟩ := hrel
    have HO := Lib.hid ho
    have HW := Lib.hid hw
    have HMv := Lib.hid hmv
    have hsz := hw.size
    clear ho hw hmv
    by_cases hlt : j < 4
    · have HT := Lib.hid (le_take n j hlt)
      have hlti : (j : Int) < 4 := by omega
      have HC : Hid ((wr.alloc (.cells #[.int .u8 ((n : Int) / 2 ^ (8 * j) % 256)] 5)).cell? ⟨wr.heap.size, 0, none⟩ = some (byt (n / 2 ^ (8 * j) % 256))) := Lib.hid (by
        have e : (n : Int) / 2 ^ (8 * j) % 256 = ((n / 2 ^ (8 * j) % 256 : Nat) : Int) := by rw [pow_cast, Int.natCast_emod, Int.natCast_ediv]; rfl
        rw [e]
        exact (Box.new wr 5 #[.int .u8 ((n / 2 ^ (8 * j) % 256 : Nat) : Int)]).cell 0)
      have HL1 := Lib.hid (show (xs ++ (le n).take j).length ≤ 100000 by rw [List.length_append, List.length_take, le_len]; omega)
      have HSz := Lib.hid hsz
      clear hsz
      go_wp2_with (at_builtin; refine app_byte rfl (.tmp 9) (.tmp 15) rfl base u0 (xs ++ (le n).take j) rfl ?own1 wr.heap.size (n / 2 ^ (8 * j) % 256) rfl HC.out HL1.out ?base1 ?rest1)
      case own1 => exact World.ownsRow.alloc HO.out _
      case base1 => have := HSz.out; simp; omega
      case rest1 =>
        intro v1 w1 r1 g1 m1
        have HO1 := Lib.hid r1
        have HW1 := Lib.hid (grow_row HW.out HMv.out g1 (by simpa using m1))
        clear r1 g1 m1
        go_wp2
        go_roundw
        case rel => exact ⟨j + 1, hlt, by go_num, by rw [HT.out, ← List.append_assoc]; simpa using HO1.out, HW1.out.1, HW1.out.2⟩
        case measure => simp [intOf]; omega
    · obtain rfl : j = 4 := by omega
      rw [show ((4 : Nat) : Int) = 4 from rfl]
      have HE : Hid ((le n).take 4 = le n) := Lib.hid (List.take_of_length_le (by rw [le_len]; exact Nat.le_refl _))
      go_wp2
      go_ret
      exact ⟨_, rfl, by rw [← HE.out]; exact HO.out, HW.out, HMv.out⟩
end Go.Proofs.YtphpciglpnbblaaDoor
