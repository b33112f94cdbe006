/-
  SumsJoin, walked.
-/
import Derived.Test.YtmnnjbamphoghaaDoorAwaken
namespace Go.Proofs.YtmnnjbamphoghaaDoor
open Go.RowKit

section
variable {w : World} {va vb : Value} {a b : List Nat}
structure JoinIn (w : World) (va vb : Value) (a b : List Nat) : Prop where
  laid : Laid w
  a : Src w va a
  b : Src w vb b
theorem JoinIn.nix {w' : World} (h : JoinIn w va vb a b) (ho : Only Nix w w') : JoinIn w' va vb a b := ⟨h.laid.nix ho, h.a.nix ho, h.b.nix ho⟩
theorem one8 {u : World} {v : Value} {bs : List Nat} (hw : Only Nix w u) (hL : Laid u) (hS : Src u v bs) :
    Calls Tryd.prog 10 #[.slice (some ⟨u.heap.size, 0, none⟩) 1 1] (u.alloc (.cells #[v] 22)) fun e w' => e = .returned (iv (sm 8 7 bs : Nat)) ∧ Only Nix w w' := by
  have o := (Only.refl Nix u).alloc (.cells #[v] 22)
  have c := Sum8_any (hL.nix o) (lists1 hS 22)
  rw [show [bs].flatten = bs from by simp] at c
  exact c.mono fun _ _ hh => ⟨hh.1, (hw.trans o).trans hh.2⟩
theorem one16 {u : World} {v : Value} {bs : List Nat} (hw : Only Nix w u) (hL : Laid u) (hS : Src u v bs) :
    Calls Tryd.prog 12 #[.slice (some ⟨u.heap.size, 0, none⟩) 1 1] (u.alloc (.cells #[v] 22)) fun e w' => e = .returned (iv (sm 16 32773 bs : Nat)) ∧ Only Nix w w' := by
  have o := (Only.refl Nix u).alloc (.cells #[v] 22)
  have c := Sum16_any (hL.nix o) (lists1 hS 22)
  rw [show [bs].flatten = bs from by simp] at c
  exact c.mono fun _ _ hh => ⟨hh.1, (hw.trans o).trans hh.2⟩
theorem two8 {u : World} {v v' : Value} {bs bs' : List Nat} (hw : Only Nix w u) (hL : Laid u) (hS : Src u v bs) (hS' : Src u v' bs') :
    Calls Tryd.prog 10 #[.slice (some ⟨u.heap.size, 0, none⟩) 2 2] (u.alloc (.cells #[v, v'] 22)) fun e w' => e = .returned (iv (sm 8 7 (bs ++ bs') : Nat)) ∧ Only Nix w w' := by
  have o := (Only.refl Nix u).alloc (.cells #[v, v'] 22)
  have c := Sum8_any (hL.nix o) (lists2 hS hS' 22)
  rw [show [bs, bs'].flatten = bs ++ bs' from by simp] at c
  exact c.mono fun _ _ hh => ⟨hh.1, (hw.trans o).trans hh.2⟩
theorem two16 {u : World} {v v' : Value} {bs bs' : List Nat} (hw : Only Nix w u) (hL : Laid u) (hS : Src u v bs) (hS' : Src u v' bs') :
    Calls Tryd.prog 12 #[.slice (some ⟨u.heap.size, 0, none⟩) 2 2] (u.alloc (.cells #[v, v'] 22)) fun e w' => e = .returned (iv (sm 16 32773 (bs ++ bs') : Nat)) ∧ Only Nix w w' := by
  have o := (Only.refl Nix u).alloc (.cells #[v, v'] 22)
  have c := Sum16_any (hL.nix o) (lists2 hS hS' 22)
  rw [show [bs, bs'].flatten = bs ++ bs' from by simp] at c
  exact c.mono fun _ _ hh => ⟨hh.1, (hw.trans o).trans hh.2⟩
/-- bytes, and their sum behind them -/
theorem self8 (a : List Nat) (ha : ∀ x ∈ a, x < 256) : sm 8 7 (a ++ [sm 8 7 a]) = 0 := by
  have hl : sm 8 7 a < 2 ^ 8 := sm_lt (by decide) (by decide) a ha
  rw [sm_append, sm_cons, sm_nil]
  simp only [List.length_singleton, List.length_nil, Nat.mul_zero, Nat.zero_add, Nat.xor_zero, Nat.mul_one]
  exact Nat.xor_self _
theorem self16 (a : List Nat) (ha : ∀ x ∈ a, x < 256) : sm 16 32773 (a ++ [sm 16 32773 a / 256, sm 16 32773 a % 256]) = 0 := by
  have hl : sm 16 32773 a < 2 ^ 16 := sm_lt (by decide) (by decide) a ha
  rw [sm_append, sm_cons, sm_cons, sm_nil]
  generalize sm 16 32773 a = y at *
  simp only [List.length_cons, List.length_nil, Nat.mul_zero, Nat.zero_add, Nat.xor_zero, Nat.mul_one, Nat.reduceAdd, Nat.reduceMul]
  have e : nous 16 32773 24 (y / 256) = nous 16 32773 16 (y / 256 * 256) := by
    rw [show (24 : Nat) = 8 + 16 from rfl, nous_add, nous_small (n := 16) 32773 8 (by decide) (by omega)]
  rw [e, ← nous_xor, ← nous_xor, show y / 256 * 256 = y / 256 * 2 ^ 8 from rfl, xor_add_high _ _ 8 (Nat.mod_lt _ (by decide)), show y / 256 * 2 ^ 8 + y % 256 = y from by omega, Nat.xor_self, nous_zero]
theorem sh8 {u : World} (hw : Only Nix w u) (hL : Laid u) (s m : Nat) (z : Int) (hz : z = (m : Int)) (hs : s < 256) (hm : m ≤ 1048576) :
    Calls Tryd.prog 14 #[iv (s : Int), iv z] u fun e w' => e = .returned (.tuple #[iv (nous 8 7 m s : Nat), iv 0]) ∧ Only Nix w w' := by
  subst hz
  exact (Shift8_yes hL s m hs hm).mono fun _ _ hh => ⟨hh.1, hw.trans hh.2⟩
theorem sh16 {u : World} (hw : Only Nix w u) (hL : Laid u) (s m : Nat) (z : Int) (hz : z = (m : Int)) (hs : s < 65536) (hm : m ≤ 1048576) :
    Calls Tryd.prog 15 #[iv (s : Int), iv z] u fun e w' => e = .returned (.tuple #[iv (nous 16 32773 m s : Nat), iv 0]) ∧ Only Nix w w' := by
  subst hz
  exact (Shift16_yes hL s m hs hm).mono fun _ _ hh => ⟨hh.1, hw.trans hh.2⟩
theorem aw {u : World} (hw : Only Nix w u) (hL : Laid u) : Calls Tryd.prog 9 #[] u fun e w' => e = .returned (.bool true) ∧ Only Nix w w' :=
  (awake_any hL).mono fun _ _ hh => ⟨hh.1, hw.trans hh.2⟩
theorem end8 {u : World} {v : Value} {bs : List Nat} (x : Nat) (hx : x < 256) (hw : Only Nix w u) (hL : Laid u) (hS : Src u v bs) :
    Calls Tryd.prog 10 #[.slice (some ⟨u.heap.size + 1, 0, none⟩) 2 2] ((u.alloc (.cells #[.int .u8 (x : Int)] 5)).alloc (.cells #[v, .slice (some ⟨u.heap.size, 0, none⟩) 1 1] 22)) fun e w' => e = .returned (iv (sm 8 7 (bs ++ [x]) : Nat)) ∧ Only Nix w w' := by
  have o := (Only.refl Nix u).alloc (.cells #[.int .u8 (x : Int)] 5)
  have c := two8 (hw.trans o) (hL.nix o) (hS.nix o) (src1 u x hx 5)
  rwa [World.size_alloc] at c
theorem end16 {u : World} {v : Value} {bs : List Nat} (x y : Nat) (zx zy : Int) (ex : zx = (x : Int)) (ey : zy = (y : Int)) (hx : x < 256) (hy : y < 256) (hw : Only Nix w u) (hL : Laid u) (hS : Src u v bs) :
    Calls Tryd.prog 12 #[.slice (some ⟨u.heap.size + 1, 0, none⟩) 2 2] ((u.alloc (.cells #[.int .u8 zx, .int .u8 zy] 5)).alloc (.cells #[v, .slice (some ⟨u.heap.size, 0, none⟩) 2 2] 22)) fun e w' => e = .returned (iv (sm 16 32773 (bs ++ [x, y]) : Nat)) ∧ Only Nix w w' := by
  subst ex ey
  have o := (Only.refl Nix u).alloc (.cells #[.int .u8 (x : Int), .int .u8 (y : Int)] 5)
  have c := two16 (hw.trans o) (hL.nix o) (hS.nix o) (src2 u x y hx hy 5)
  rwa [World.size_alloc] at c
end

set_option maxHeartbeats 1000000 in
theorem join_go (A B : Option Addr) (c d : Nat) (a b : List Nat) (w : World) (h : JoinIn w (.slice A a.length c) (.slice B b.length d) a b) (ha : a.length ≤ 400) (hb : b.length ≤ 400) :
    Calls Tryd.prog 5 #[.slice A a.length c, .slice B b.length d] w fun e w' => e = .returned (.bool true) ∧ Only Nix w w' := by
  have d1 : decide (400 < (a.length : Int)) = false := by simp; omega
  have d2 : decide (400 < (b.length : Int)) = false := by simp; omega
  have hx : sm 8 7 a < 256 := sm_lt (n := 8) (by decide) (by decide) a h.a.lt
  have hy : sm 16 32773 a < 65536 := sm_lt (n := 16) (by decide) (by decide) a h.a.lt
  go_enter Tryd.func5, Tryd.ntmps5
  go_wp2_with fail
  refine (one8 (Only.refl _ _) h.laid h.a).mono ?_
  rintro e w1 ⟨rfl, o1⟩
  go_wp2_with fail
  refine (one16 o1 (h.nix o1).laid (h.nix o1).a).mono ?_
  rintro e w2 ⟨rfl, o2⟩
  go_wp2_with fail
  refine (sh8 o2 (h.nix o2).laid (sm 8 7 a) (8 * b.length) _ (by omega) hx (by omega)).mono ?_
  rintro e w3 ⟨rfl, o3⟩
  have hp : nous 8 7 (8 * b.length) (sm 8 7 a) < 256 := nous_lt (n := 8) (by decide) _ _ hx
  have hq : nous 16 32773 (8 * b.length) (sm 16 32773 a) < 65536 := nous_lt (n := 16) (by decide) _ _ hy
  have hxb : sm 8 7 b < 256 := sm_lt (n := 8) (by decide) (by decide) b h.b.lt
  have hyb : sm 16 32773 b < 65536 := sm_lt (n := 16) (by decide) (by decide) b h.b.lt
  have n8 : (((sm 8 7 (a ++ b) : Nat) : Int) != bits .xor .i64 ((nous 8 7 (8 * b.length) (sm 8 7 a) : Nat) : Int) ((sm 8 7 b : Nat) : Int)) = false := by
    rw [i64_xor_nat _ _ (by omega) (by omega), ← sm_append]; simp
  have n16 : (((sm 16 32773 (a ++ b) : Nat) : Int) != bits .xor .i64 ((nous 16 32773 (8 * b.length) (sm 16 32773 a) : Nat) : Int) ((sm 16 32773 b : Nat) : Int)) = false := by
    rw [i64_xor_nat _ _ (by omega) (by omega), ← sm_append]; simp
  have s8 : Hid (sm 8 7 (a ++ [sm 8 7 a]) = 0) := self8 a h.a.lt
  have s16 : Hid (sm 16 32773 (a ++ [sm 16 32773 a / 256, sm 16 32773 a % 256]) = 0) := self16 a h.a.lt
  generalize nous 8 7 (8 * b.length) (sm 8 7 a) = P8 at *
  go_wp2_with fail
  refine (sh16 o3 (h.nix o3).laid (sm 16 32773 a) (8 * b.length) _ (by omega) hy (by omega)).mono ?_
  rintro e w4 ⟨rfl, o4⟩
  generalize nous 16 32773 (8 * b.length) (sm 16 32773 a) = P16 at *
  go_wp2_with fail
  refine (two8 o4 (h.nix o4).laid (h.nix o4).a (h.nix o4).b).mono ?_
  rintro e w5 ⟨rfl, o5⟩
  go_wp2_with fail
  refine (one8 o5 (h.nix o5).laid (h.nix o5).b).mono ?_
  rintro e w6 ⟨rfl, o6⟩
  go_wp2_with fail
  refine (two16 o6 (h.nix o6).laid (h.nix o6).a (h.nix o6).b).mono ?_
  rintro e w7 ⟨rfl, o7⟩
  go_wp2_with fail
  refine (one16 o7 (h.nix o7).laid (h.nix o7).b).mono ?_
  rintro e w8 ⟨rfl, o8⟩
  clear n8
  have t8 := end8 (sm 8 7 a) hx o8 (h.nix o8).laid (h.nix o8).a
  rw [s8.out] at t8
  have T8 := Lib.hid t8
  clear t8
  go_wp2_with fail
  refine (T8.out).mono ?_
  rintro e w9 ⟨rfl, o9⟩
  have t16 := end16 (sm 16 32773 a / 256) (sm 16 32773 a % 256) ((sm 16 32773 a : Int) / 256) ((sm 16 32773 a : Int) % 256) (by omega) (by omega) (by omega) (by omega) o9 (h.nix o9).laid (h.nix o9).a
  rw [s16.out] at t16
  have T16 := Lib.hid t16
  clear t16
  go_wp2_with fail
  refine (T16.out).mono ?_
  rintro e w10 ⟨rfl, o10⟩
  go_wp2_with fail
  refine (aw o10 (h.nix o10).laid).mono ?_
  rintro e w11 ⟨rfl, o11⟩
  go_wp2
  go_ret
  exact ⟨rfl, o11⟩

set_option maxHeartbeats 400000 in
theorem sumsJoin_walk (A B : Option Addr) (c d : Nat) (a b : List Nat) (w : World) (hL : Laid w) (ha : Src w (.slice A a.length c) a) (hb : Src w (.slice B b.length d) b) :
    Calls Tryd.prog 5 #[.slice A a.length c, .slice B b.length d] w fun e w' => e = .returned (.bool true) ∧ Only Nix w w' := by
  by_cases h1 : 400 < a.length
  · have d1 : decide (400 < (a.length : Int)) = true := by simp; omega
    go_enter Tryd.func5, Tryd.ntmps5
    go_wp2_with fail
    refine (awake_any hL).mono ?_
    rintro e w1 ⟨rfl, ho1⟩
    go_wp2
    go_ret
    exact ⟨rfl, ho1⟩
  · by_cases h2 : 400 < b.length
    · have d1 : decide (400 < (a.length : Int)) = false := by simp; omega
      have d2 : decide (400 < (b.length : Int)) = true := by simp; omega
      go_enter Tryd.func5, Tryd.ntmps5
      go_wp2_with fail
      refine (awake_any hL).mono ?_
      rintro e w1 ⟨rfl, ho1⟩
      go_wp2
      go_ret
      exact ⟨rfl, ho1⟩
    · exact join_go A B c d a b w ⟨hL, ha, hb⟩ (by omega) (by omega)
end Go.Proofs.YtmnnjbamphoghaaDoor
