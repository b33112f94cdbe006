/-
  The chapter's examples.
-/
import Derived.Test.YthjilkgljobfhaaDoorEqual
namespace Go.Proofs.YthjilkgljobfhaaDoor
open Go.RowKit

/-- Put, in a world that has gone on -/
theorem put_at {u : World} (hL : Laid u) (n m : Nat) (z : Int) (bs : List Nat) (hz : z = (n : Int)) (hn : n < 68719476736) (hm : szOf n = m) (hb : cd n = bs) :
    Calls Tryd.prog 7 #[iv z] u fun e w' => ∃ g, e = .returned (.tuple #[.slice (some ⟨g, 0, none⟩) m m, iv 0]) ∧ Src w' (.slice (some ⟨g, 0, none⟩) m m) bs ∧ Only Nix u w' := by
  subst hz hm hb
  refine (put_yes hL n hn).mono ?_
  rintro e w' ⟨g, _, he, hB, ho⟩
  exact ⟨g, he, src_cd hn hB, ho⟩
/-- Get, in a world that has gone on -/
theorem get_at {u : World} (hL : Laid u) (A : Option Addr) (m c : Nat) (bs : List Nat) (a b d : Nat) (h : Src u (.slice A m c) bs) (hg : getOf bs = (a, b, d)) :
    Calls Tryd.prog 12 #[.slice A m c] u fun e w' => e = .returned (.tuple #[iv (a : Int), iv (b : Int), iv (d : Int)]) ∧ Only Nix u w' := by
  obtain rfl := h.len
  refine (get_any hL A c bs h).mono ?_
  rintro e w' ⟨he, ho⟩
  unfold gotten at he
  rw [hg] at he
  exact ⟨he, ho⟩
theorem src7 (w : World) (t : TypeId) : Src (w.alloc (.cells #[.int .u8 254, .int .u8 191, .int .u8 191, .int .u8 191, .int .u8 191, .int .u8 191, .int .u8 191] t)) (.slice (some ⟨w.heap.size, 0, none⟩) 7 7) [254, 191, 191, 191, 191, 191, 191] := by
  refine Src.of_cells rfl (fun j hj => ?_) (by simp) (by simp)
  match j, hj with
  | 0, _ => simp [byt]
  | 1, _ => simp [byt]
  | 2, _ => simp [byt]
  | 3, _ => simp [byt]
  | 4, _ => simp [byt]
  | 5, _ => simp [byt]
  | 6, _ => simp [byt]

set_option maxHeartbeats 1000000 in
theorem awake_any {w : World} (hL : Laid w) : Calls Tryd.prog 9 #[] w fun e w' => e = .returned (.bool true) ∧ Only Nix w w' := by
  have HL : Hid (∀ u, Only Nix w u → Laid u) := fun u o => hL.nix o
  clear hL
  go_enter Tryd.func9, Tryd.ntmps9
  go_wp2_with fail
  refine (put_at (HL.out _ (Only.refl _ _)) 128 2 _ [194, 128] rfl (by decide) (by decide) (by decide)).mono ?_
  rintro e w1 ⟨g1, rfl, s1, o1⟩
  have S1 := Lib.hid s1
  clear s1
  go_wp2_with fail
  refine (put_at (HL.out _ o1) 68719476735 7 _ [254, 191, 191, 191, 191, 191, 191] rfl (by decide) (by decide) (by decide)).mono ?_
  rintro e w2 ⟨g2, rfl, s2, o2⟩
  have S2 := Lib.hid s2
  clear s2
  have a2 := (Only.refl Nix w2).alloc (.cells #[.int .u8 194, .int .u8 128, .int .u8 5] 5)
  go_wp2_with fail
  refine (get_at (HL.out _ ((o1.trans o2).trans a2)) _ 3 3 [194, 128, 5] 128 2 0 (src3 w2 194 128 5 (by decide) (by decide) (by decide) 5) (by decide)).mono ?_
  rintro e w3 ⟨rfl, o3⟩
  have t3 := (o2.trans a2).trans o3
  have u3 := a2.trans o3
  clear a2 o3
  have a3 := (Only.refl Nix w3).alloc (.cells #[.int .u8 193, .int .u8 191] 5)
  go_wp2_with fail
  refine (get_at (HL.out _ ((o1.trans t3).trans a3)) _ 2 2 [193, 191] 0 0 12 (src2 w3 193 191 (by decide) (by decide) 5) (by decide)).mono ?_
  rintro e w4 ⟨rfl, o4⟩
  have t4 := (t3.trans a3).trans o4
  have u4 := (u3.trans a3).trans o4
  clear a3 o4 t3 u3
  have a4 := (Only.refl Nix w4).alloc (.cells #[.int .u8 194, .int .u8 128] 5)
  go_wp2_with fail
  refine (equal_at (Only.refl Nix _) _ _ 2 2 2 2 [194, 128] (S1.out.nix (t4.trans a4)) (src2 w4 194 128 (by decide) (by decide) 5)).mono ?_
  rintro e w5 ⟨rfl, o5⟩
  have t5 := (t4.trans a4).trans o5
  have u5 := (u4.trans a4).trans o5
  clear a4 o5 t4 u4
  have a5 := (Only.refl Nix w5).alloc (.cells #[.int .u8 254, .int .u8 191, .int .u8 191, .int .u8 191, .int .u8 191, .int .u8 191, .int .u8 191] 5)
  go_wp2_with fail
  refine (equal_at (Only.refl Nix _) _ _ 7 7 7 7 [254, 191, 191, 191, 191, 191, 191] (S2.out.nix (u5.trans a5)) (src7 w5 5)).mono ?_
  rintro e w6 ⟨rfl, o6⟩
  go_wp2
  go_ret
  exact ⟨rfl, ((o1.trans t5).trans a5).trans o6⟩
end Go.Proofs.YthjilkgljobfhaaDoor
