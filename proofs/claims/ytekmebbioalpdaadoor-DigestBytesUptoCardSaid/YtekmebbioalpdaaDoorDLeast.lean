/-
  leastFirst, walked.
-/
import Derived.Test.YtekmebbioalpdaaDoorDApp
import Derived.Test.YtekmebbioalpdaaDoorDMath
namespace Go.Proofs.YtekmebbioalpdaaDoor
open Go.RowKit

def LeastP (w : World) (base n : Nat) (bs : List Nat) (V k : Nat) (s0 s9 : Value) (wr : World) : Prop :=
  ∃ j : Nat, j ≤ k ∧ s9 = iv j ∧ wr.ownsRow base 5 1 s0 (n + j) ((bs ++ lf V j).map byt) ∧ Only (From base) w wr
theorem lf_step (V j : Nat) (bs : List Nat) : (bs ++ lf V j).map byt ++ [V / 2 ^ (8 * j) % 256].map byt = (bs ++ lf V (j + 1)).map byt := by
  rw [lf, ← List.map_append, List.append_assoc]

set_option maxHeartbeats 1000000 in
theorem least_any {w : World} (base : Nat) (v : Value) (n : Nat) (bs : List Nat) (hown : w.ownsRow base 5 1 v n (bs.map byt)) (V k : Nat) (hV : V < 18446744073709551616) (hk : k ≤ 8) (hn : n ≤ 90000000) (hbase : base ≤ w.heap.size) :
    Calls Tryd.prog 27 #[v, .int .u64 (V : Int), iv k] w fun e w' => ∃ v', e = .returned v' ∧ w'.ownsRow base 5 1 v' (n + k) ((bs ++ lf V k).map byt) ∧ Only (From base) w w' := by
  have HO := Lib.hid hown
  obtain ⟨A, c, rfl⟩ := owns_slice hown
  clear hown
  go_enter Tryd.func27, Tryd.ntmps27
  go_wp2
  go_loopw [0, 9] (fun s0 s9 wr => LeastP w base n bs V k s0 s9 wr) (fun _ s9 _ => k - (intOf s9).toNat)
  case atStart =>
    refine ⟨0, by omega, rfl, ?_, Only.refl _ _⟩
    rw [lf, List.append_nil]
    exact HO.out
  case round =>
    obtain ⟨j, hj, rfl, hO, ho⟩ := hrel
    obtain ⟨A2, c2, rfl⟩ := owns_slice hO
    have hO1 := Lib.hid hO
    by_cases hlt : j < k
    · have hlt2 : (j : Int) < (k : Int) := by omega
      obtain ⟨x, hx⟩ : ∃ x, Hid (V / 2 ^ (8 * j) % 256 = x) := ⟨_, Lib.hid rfl⟩
      have hx256 : x < 256 := by rw [← hx.out]; exact Nat.mod_lt _ (by decide)
      have hxi : (V : Int) / 2 ^ (8 * j) % 256 = (x : Int) := by
        rw [← hx.out, pow_cast, ← Int.natCast_ediv]; omega
      have hst := Lib.hid (lf_step V j bs)
      rw [hx.out] at hst
      generalize (bs ++ lf V j).map byt = XS at *
      have hsz := ho.size
      have HOa : Hid ((wr.alloc (.cells #[.int .u8 (x : Int)] 5)).ownsRow base 5 1 (.slice A2 (n + j) c2) (n + j) XS) :=
        Lib.hid (owns_only hO ((Only.refl Nix _).alloc _) (fun _ _ e => e))
      clear hO
      go_wp2_with (at_builtin; refine wpList_append_bytes rfl (.tmp 12) (.tmp 18) rfl base (.slice A2 (n + j) c2) (n + j) XS rfl HOa.out (some ⟨wr.heap.size, 0, none⟩) 1 1 [x] rfl (byt_src1 wr x hx256 5) (by omega) (by simp; omega) ?rest)
      case rest =>
        intro v2 w2 hown2 hgr _
        have ho2 : Only (From base) w w2 := (ho.alloc _).grown hgr (fun i hi => .inl (HOa.out.lt i hi).1)
        have hown2 : w2.ownsRow base 5 1 v2 (n + j + 1) (XS ++ [x].map byt) := hown2
        rw [hst.out] at hown2
        clear hgr
        have HO2 := Lib.hid hown2
        clear hown2
        go_wp2
        go_roundw
        case rel => exact ⟨j + 1, by omega, by go_num, HO2.out, ho2⟩
        case measure => simp [intOf]; omega
    · obtain rfl : j = k := by omega
      go_wp2
      go_ret
      exact ⟨_, rfl, hO, ho⟩
/-- .. with its numbers in whatever spelling -/
theorem least_at {w : World} (base : Nat) (v : Value) (n : Nat) (bs : List Nat) (hown : w.ownsRow base 5 1 v n (bs.map byt)) (V k : Nat) (x y : Int) (hx : x = (V : Int)) (hy : y = (k : Int)) (hV : V < 18446744073709551616) (hk : k ≤ 8) (hn : n ≤ 90000000) (hbase : base ≤ w.heap.size) :
    Calls Tryd.prog 27 #[v, .int .u64 x, .int .i64 y] w fun e w' => ∃ v', e = .returned v' ∧ w'.ownsRow base 5 1 v' (n + k) ((bs ++ lf V k).map byt) ∧ Only (From base) w w' := by
  subst hx hy
  exact least_any base v n bs hown V k hV hk hn hbase
end Go.Proofs.YtekmebbioalpdaaDoor
