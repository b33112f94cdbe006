/-
  code and its closure, walked.
-/
import Derived.Test.YthjilkgljobfhaaDoorGet
namespace Go.Proofs.YthjilkgljobfhaaDoor
open Go.RowKit

theorem shr6 (n k : Nat) : (n : Int) / 2 ^ (6 * k) = ((n / 64 ^ k : Nat) : Int) := by
  rw [pow_cast, Nat.pow_mul, ← Int.natCast_ediv]
theorem or_nat (a y m : Nat) (ha : a < 2 ^ 61) (hy : y < 2 ^ m) (hy2 : y < 2 ^ 61) (hd : a % 2 ^ m = 0) : bits .or .i64 (a : Int) (y : Int) = ((a + y : Nat) : Int) := i64_join a y m (by omega) hy (by omega) hd
theorem or_mark (n : Nat) (hn : n < 68719476736) : bits .or .i64 (mrk.getD (szOf n - 1) 0 : Nat) ((n / 64 ^ (szOf n - 1) : Nat) : Int) = (fb n : Int) := by
  rcases szOf_cases n with ⟨h, e⟩ | ⟨h, g, e⟩ | ⟨h, g, e⟩ | ⟨h, g, e⟩ | ⟨h, g, e⟩ | ⟨h, g, e⟩ | ⟨h, e⟩
  · have := or_nat 0 n 7 (by decide) (by omega) (by omega) (by decide); simpa [fb, e, mrk] using this
  · have := or_nat 192 (n / 64) 5 (by decide) (by omega) (by omega) (by decide); simpa [fb, e, mrk] using this
  · have := or_nat 224 (n / 4096) 4 (by decide) (by omega) (by omega) (by decide); simpa [fb, e, mrk] using this
  · have := or_nat 240 (n / 262144) 3 (by decide) (by omega) (by omega) (by decide); simpa [fb, e, mrk] using this
  · have := or_nat 248 (n / 16777216) 2 (by decide) (by omega) (by omega) (by decide); simpa [fb, e, mrk] using this
  · have := or_nat 252 (n / 1073741824) 1 (by decide) (by omega) (by omega) (by decide); simpa [fb, e, mrk] using this
  · have := or_nat 254 (n / 68719476736) 0 (by decide) (by omega) (by omega) (by decide); simpa [fb, e, mrk] using this
theorem or_128 (y : Nat) (hy : y < 64) : bits .or .i64 128 (y : Int) = ((128 + y : Nat) : Int) := or_nat 128 y 6 (by decide) (by omega) (by omega) (by decide)

set_option maxHeartbeats 1000000 in
theorem code1_any {w : World} (hL : Laid w) (n at_ S x : Nat) (p q : Addr) (hp : w.cell? p = some (iv n)) (hq : w.cell? q = some (iv S)) (hS : S = szOf n) (hn : n < 68719476736) (hat : at_ < S) (hx : (cd n)[at_]? = some x) :
    Calls Tryd.prog 18 #[iv at_, .pointer (some p), .pointer (some q)] w fun e w' => e = .returned (.int .u8 (x : Int)) ∧ w = w' := by
  have hz := szOf_bd n
  by_cases h0 : at_ = 0
  · subst h0
    have hx2 : x = fb n := by rw [cd_at0] at hx; exact (Option.some.inj hx).symm
    have hm := hL.mark (szOf n - 1) (by omega)
    have hs := shr6 n (szOf n - 1)
    have ho := or_mark n hn
    have h256 := (fb_begun n hn).2.2
    rw [← hx2] at ho h256
    rw [← hS] at hm hs ho hz
    have hx256 : (x : Int) % 256 = (x : Int) := by omega
    clear hL hx2 hx hS
    generalize mrk.getD (S - 1) 0 = M at *
    generalize n / 64 ^ (S - 1) = V at *
    go_enter Tryd.func18, Tryd.ntmps18
    go_wp2
    go_ret
    exact ⟨rfl, rfl⟩
  · have hx2 := cd_at n at_ (by omega) (by omega)
    rw [hx] at hx2
    have hx3 := Option.some.inj hx2
    have hs := shr6 n (szOf n - 1 - at_)
    rw [← hS] at hs hx3 hz
    have hlt : n / 64 ^ (S - 1 - at_) ≤ n := Nat.div_le_self _ _
    clear hL hx hS hx2
    generalize n / 64 ^ (S - 1 - at_) = V at *
    have ha := and63 V (by omega)
    have ho : bits .or .i64 128 ((V : Int) % 64) = ((128 + V % 64 : Nat) : Int) := or_128 (V % 64) (Nat.mod_lt _ (by decide))
    rw [← hx3] at ho
    have hx256 : (x : Int) % 256 = (x : Int) := by omega
    have d1 : 0 ≤ (S : Int) - 1 - (at_ : Int) := by omega
    have d2 : ((at_ : Int) == 0) = false := by simp; omega
    have HH := Lib.hid hx3
    clear hx3
    go_enter Tryd.func18, Tryd.ntmps18
    go_wp2
    go_ret
    exact ⟨rfl, rfl⟩
set_option maxHeartbeats 1000000 in
theorem code_any {w : World} (n S : Nat) :
    Calls Tryd.prog 13 #[iv n, iv S] w fun e w' => e = .returned (.func (.func 18) #[] #[.pointer (some ⟨w.heap.size, 0, none⟩), .pointer (some ⟨w.heap.size + 1, 0, none⟩)]) ∧ (w.alloc (.cells #[iv n] 3)).alloc (.cells #[iv S] 3) = w' := by
  go_enter Tryd.func13, Tryd.ntmps13
  go_wp2
  go_ret
  exact ⟨rfl, rfl⟩
end Go.Proofs.YthjilkgljobfhaaDoor
