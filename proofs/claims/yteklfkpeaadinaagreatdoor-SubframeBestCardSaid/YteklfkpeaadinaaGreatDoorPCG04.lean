/-
  The small functions of package rice: checkBlock, checkParting, paramSize, rawCode, mostParam, isPart, isResidual, fold, unfold.
-/
import Derived.Test.YteklfkpeaadinaaGreatDoorPCG02
import Derived.Test.YteklfkpeaadinaaGreatDoorPCG03
import Derived.Outline
import Derived.Deep.OwnRows
namespace Go.Proofs.YteklfkpeaadinaaGreatDoor
open Go.RowKit

/-- an int -/
abbrev iv (n : Int) : Value := .int .i64 n
/-- a residual without a sign -/
def fd (x : Int) : Nat := if x < 0 then (-2 * x - 1).toNat else (2 * x).toNat
/-- may a number be a residual -/
def isR (x : Int) : Prop := -2147483648 < x ∧ x < 2147483648
instance (x : Int) : Decidable (isR x) := by unfold isR; exact inferInstance
/-- what is wrong with a block -/
def ckB (b s : Int) : Int := if b < 1 ∨ 65535 < b ∨ s < 0 ∨ 32 < s then 1 else 0
/-- what is wrong with a parting -/
def ckP (o b s : Nat) : Int := if b % 2 ^ o ≠ 0 ∨ b / 2 ^ o ≤ s then 12 else 0
/-- may a part be -/
def isP (m p wd : Int) : Prop := (p = -1 ∧ 0 ≤ wd ∧ wd ≤ 31) ∨ (0 ≤ p ∧ p ≤ 14 + 16 * m ∧ wd = 0)
instance (m p wd : Int) : Decidable (isP m p wd) := by unfold isP; exact inferInstance
theorem fd_lt {x : Int} (h : isR x) : fd x < 4294967296 := by unfold fd; unfold isR at h; split <;> omega
set_option maxHeartbeats 400000 in
theorem checkBlock_any (w : World) (b s : Int) :
    Calls Tryz.prog 107 #[iv b, iv s] w fun e w' => e = .returned (iv (ckB b s)) ∧ w = w' := by
  by_cases h1 : b < 1
  · have e1 : ckB b s = 1 := by unfold ckB; rw [if_pos (by omega)]
    rw [e1]
    go_enter Tryz.func107, Tryz.ntmps107
    go_wp2
    go_ret
    exact ⟨rfl, rfl⟩
  · by_cases h2 : 65535 < b
    · have e1 : ckB b s = 1 := by unfold ckB; rw [if_pos (by omega)]
      rw [e1]
      go_enter Tryz.func107, Tryz.ntmps107
      go_wp2
      go_ret
      exact ⟨rfl, rfl⟩
    · by_cases h3 : s < 0
      · have e1 : ckB b s = 1 := by unfold ckB; rw [if_pos (by omega)]
        rw [e1]
        go_enter Tryz.func107, Tryz.ntmps107
        go_wp2
        go_ret
        exact ⟨rfl, rfl⟩
      · by_cases h4 : 32 < s
        · have e1 : ckB b s = 1 := by unfold ckB; rw [if_pos (by omega)]
          rw [e1]
          go_enter Tryz.func107, Tryz.ntmps107
          go_wp2
          go_ret
          exact ⟨rfl, rfl⟩
        · have e1 : ckB b s = 0 := by unfold ckB; rw [if_neg (by omega)]
          rw [e1]
          go_enter Tryz.func107, Tryz.ntmps107
          go_wp2
          go_ret
          exact ⟨rfl, rfl⟩
set_option maxHeartbeats 400000 in
theorem checkParting_any (w : World) (o b s : Nat) (ho : o ≤ 15) (hb : b ≤ 65535) :
    Calls Tryz.prog 117 #[iv o, iv b, iv s] w fun e w' => e = .returned (iv (ckP o b s)) ∧ w = w' := by
  have hc : ckP o b s = if b % 2 ^ o ≠ 0 ∨ b / 2 ^ o ≤ s then 12 else 0 := rfl
  have hdl := Nat.div_le_self b (2 ^ o)
  generalize ckP o b s = C at *
  obtain ⟨P, hP⟩ : ∃ P : Nat, Hid (2 ^ o = P) := ⟨_, Lib.hid rfl⟩
  have hP2 : P ≤ 32768 := by rw [← hP.out]; exact Nat.pow_le_pow_right (by decide) ho
  have hP0 : 0 < P := by rw [← hP.out]; exact Nat.two_pow_pos o
  have hpw : (2 : Int) ^ o = (P : Int) := by rw [pow_cast, hP.out]
  have hPz : ¬ (P : Int) = 0 := by omega
  have hPz2 : ¬ P = 0 := by omega
  rw [hP.out] at hc hdl
  have hd : (b : Int) / (P : Int) = ((b / P : Nat) : Int) := by rw [← Int.natCast_ediv]
  have hm : Int.tmod (b : Int) (P : Int) = ((b % P : Nat) : Int) := by rw [Int.tmod_eq_emod_of_nonneg (by omega), Int.natCast_emod]
  have hm2 : (b : Int) % (P : Int) = ((b % P : Nat) : Int) := by rw [Int.natCast_emod]
  generalize b % P = R at *
  generalize b / P = D at *
  by_cases h1 : R = 0
  · subst h1
    by_cases h2 : D ≤ s
    · obtain rfl : C = 12 := by rw [hc, if_pos (.inr h2)]
      clear hc
      go_enter Tryz.func117, Tryz.ntmps117
      go_wp2
      go_ret
      exact ⟨rfl, rfl⟩
    · obtain rfl : C = 0 := by rw [hc, if_neg (by omega)]
      clear hc
      go_enter Tryz.func117, Tryz.ntmps117
      go_wp2
      go_ret
      exact ⟨rfl, rfl⟩
  · obtain rfl : C = 12 := by rw [hc, if_pos (.inl h1)]
    clear hc
    have h3 : ((R : Int) != 0) = true := by simp; omega
    go_enter Tryz.func117, Tryz.ntmps117
    go_wp2
    go_ret
    exact ⟨rfl, rfl⟩
set_option maxHeartbeats 400000 in
theorem paramSize_any (w : World) (m : Int) (hm : m = 0 ∨ m = 1) :
    Calls Tryz.prog 100 #[iv m] w fun e w' => e = .returned (iv (4 + m)) ∧ w = w' := by
  rcases hm with rfl | rfl
  all_goals
    go_enter Tryz.func100, Tryz.ntmps100
    go_wp2
    go_ret
    exact ⟨rfl, rfl⟩
set_option maxHeartbeats 400000 in
theorem rawCode_any (w : World) (m : Int) (hm : m = 0 ∨ m = 1) :
    Calls Tryz.prog 101 #[iv m] w fun e w' => e = .returned (iv (15 + 16 * m)) ∧ w = w' := by
  have H := Lib.hid (paramSize_any w m hm)
  rcases hm with rfl | rfl
  all_goals
    go_enter Tryz.func101, Tryz.ntmps101
    go_wp2_with fail
    refine (H.out).mono ?_
    rintro e w1 ⟨rfl, rfl⟩
    go_wp2
    go_ret
    exact ⟨rfl, rfl⟩
set_option maxHeartbeats 400000 in
theorem mostParam_any (w : World) (m : Int) (hm : m = 0 ∨ m = 1) :
    Calls Tryz.prog 134 #[iv m] w fun e w' => e = .returned (iv (14 + 16 * m)) ∧ w = w' := by
  have H := Lib.hid (rawCode_any w m hm)
  rcases hm with rfl | rfl
  all_goals
    go_enter Tryz.func134, Tryz.ntmps134
    go_wp2_with fail
    refine (H.out).mono ?_
    rintro e w1 ⟨rfl, rfl⟩
    go_wp2
    go_ret
    exact ⟨rfl, rfl⟩
set_option maxHeartbeats 1000000 in
theorem isPart_any (w : World) (m p wd : Int) (hm : m = 0 ∨ m = 1) :
    Calls Tryz.prog 121 #[iv m, iv p, iv wd] w fun e w' => e = .returned (.bool (decide (isP m p wd))) ∧ w = w' := by
  have H := Lib.hid (mostParam_any w m hm)
  obtain ⟨r, hr⟩ : ∃ r, Hid (decide (isP m p wd) = r) := ⟨_, Lib.hid rfl⟩
  have fin : ∀ q : Bool, (q = true ↔ isP m p wd) → r = q := by
    intro q hq
    rw [← hr.out]
    by_cases h : isP m p wd
    · rw [hq.2 h, decide_eq_true h]
    · rw [decide_eq_false h]
      cases q with
      | false => rfl
      | true => exact absurd (hq.1 rfl) h
  unfold isP at fin
  rw [hr.out]
  have F := Lib.hid fin
  clear fin hr
  generalize hM : 14 + 16 * m = M at *
  by_cases h1 : p = -1
  · subst h1
    by_cases h2 : 0 ≤ wd
    · by_cases h3 : wd ≤ 31
      · obtain rfl := F.out true (by simp; omega)
        go_enter Tryz.func121, Tryz.ntmps121
        go_wp2
        go_ret
        exact ⟨rfl, rfl⟩
      · obtain rfl := F.out false (by simp; omega)
        go_enter Tryz.func121, Tryz.ntmps121
        go_wp2
        go_ret
        exact ⟨rfl, rfl⟩
    · obtain rfl := F.out false (by simp; omega)
      go_enter Tryz.func121, Tryz.ntmps121
      go_wp2
      go_ret
      exact ⟨rfl, rfl⟩
  · have h1b : (p == -1) = false := by simpa using h1
    by_cases h2 : 0 ≤ p
    · by_cases h3 : p ≤ M
      · by_cases h4 : wd = 0
        · subst h4
          obtain rfl := F.out true (by simp; omega)
          go_enter Tryz.func121, Tryz.ntmps121
          go_wp2_with fail
          refine (H.out).mono ?_
          rintro e w1 ⟨rfl, rfl⟩
          go_wp2
          go_ret
          exact ⟨rfl, rfl⟩
        · obtain rfl := F.out false (by simp; omega)
          have h4b : (wd == 0) = false := by simpa using h4
          go_enter Tryz.func121, Tryz.ntmps121
          go_wp2_with fail
          refine (H.out).mono ?_
          rintro e w1 ⟨rfl, rfl⟩
          go_wp2
          go_ret
          exact ⟨rfl, rfl⟩
      · obtain rfl := F.out false (by simp; omega)
        go_enter Tryz.func121, Tryz.ntmps121
        go_wp2_with fail
        refine (H.out).mono ?_
        rintro e w1 ⟨rfl, rfl⟩
        go_wp2
        go_ret
        exact ⟨rfl, rfl⟩
    · obtain rfl := F.out false (by simp; omega)
      go_enter Tryz.func121, Tryz.ntmps121
      go_wp2
      go_ret
      exact ⟨rfl, rfl⟩
set_option maxHeartbeats 400000 in
theorem isResidual_any (w : World) (x : Int) :
    Calls Tryz.prog 122 #[iv x] w fun e w' => e = .returned (.bool (decide (isR x))) ∧ w = w' := by
  by_cases h1 : -2147483648 < x
  · by_cases h2 : x < 2147483648
    · rw [decide_eq_true (show isR x from ⟨h1, h2⟩)]
      go_enter Tryz.func122, Tryz.ntmps122
      go_wp2
      go_ret
      exact ⟨rfl, rfl⟩
    · rw [decide_eq_false (show ¬ isR x from fun h => h2 h.2)]
      go_enter Tryz.func122, Tryz.ntmps122
      go_wp2
      go_ret
      exact ⟨rfl, rfl⟩
  · rw [decide_eq_false (show ¬ isR x from fun h => h1 h.1)]
    go_enter Tryz.func122, Tryz.ntmps122
    go_wp2
    go_ret
    exact ⟨rfl, rfl⟩
set_option maxHeartbeats 400000 in
theorem fold_any (w : World) (x : Int) (hx : isR x) :
    Calls Tryz.prog 102 #[iv x] w fun e w' => e = .returned (iv (fd x : Nat)) ∧ w = w' := by
  obtain ⟨hx1, hx2⟩ := hx
  by_cases h1 : x < 0
  · have e1 : ((fd x : Nat) : Int) = -2 * x - 1 := by unfold fd; rw [if_pos h1]; omega
    rw [e1]
    clear e1
    go_enter Tryz.func102, Tryz.ntmps102
    go_wp2
    go_ret
    exact ⟨rfl, rfl⟩
  · have e1 : ((fd x : Nat) : Int) = 2 * x := by unfold fd; rw [if_neg h1]; omega
    rw [e1]
    clear e1
    go_enter Tryz.func102, Tryz.ntmps102
    go_wp2
    go_ret
    exact ⟨rfl, rfl⟩
end Go.Proofs.YteklfkpeaadinaaGreatDoor
namespace Go.Proofs.YteklfkpeaadinaaGreatDoor
open Go.RowKit

theorem cell_keep {w w' : World} (ho : Only Nix w w') {a : Addr} {u : Value} (h : w.cell? a = some u) : w'.cell? a = some u := by
  rw [World.cell?_of_block (w := w) (ho.block a.block (World.block_lt_of_cell? w a h) (fun e => e))]
  exact h
theorem cell_only {F : Nat → Prop} {w w' : World} (ho : Only F w w') {a : Addr} {u : Value} (h : w.cell? a = some u) (hF : ¬ F a.block) : w'.cell? a = some u := by
  rw [World.cell?_of_block (w := w) (ho.block a.block (World.block_lt_of_cell? w a h) hF)]
  exact h
theorem add_block (ad : Addr) (j : Nat) : (ad.add j).block = ad.block := by unfold Addr.add; split <;> rfl
theorem add_add (ad : Addr) (j k : Nat) : (ad.add j).add k = ad.add (j + k) := by
  unfold Addr.add
  split <;> split <;> simp_all [Nat.add_assoc]
/-- The slice v0 holds these numbers. -/
structure ISrc (w : World) (v0 : Value) (xs : List Int) : Prop where
  form : ∃ A c, v0 = .slice A xs.length c ∧ xs.length ≤ c ∧ ∀ j, (hj : j < xs.length) → ∃ ad, A = some ad ∧ w.cell? (ad.add j) = some (iv xs[j])
  small : xs.length ≤ 140737488355328
  fits : ∀ x ∈ xs, -9223372036854775808 ≤ x ∧ x ≤ 9223372036854775807
theorem ISrc.only {F : Nat → Prop} {w w' : World} {v : Value} {xs : List Int} (h : ISrc w v xs) (ho : Only F w w') (hF : ∀ i, i < w.heap.size → F i → ∀ ad n c, v = .slice (some ad) n c → 0 < n → ad.block ≠ i) : ISrc w' v xs := by
  obtain ⟨A, c, hv, hcap, hc⟩ := h.form
  refine ⟨⟨A, c, hv, hcap, fun j hj => ?_⟩, h.small, h.fits⟩
  obtain ⟨ad, hA, hx⟩ := hc j hj
  refine ⟨ad, hA, cell_only ho hx (fun e => ?_)⟩
  subst hA
  exact hF _ (World.block_lt_of_cell? w _ hx) e ad _ c hv (by omega) (add_block ad j).symm
theorem ISrc.nix {w w' : World} {v : Value} {xs : List Int} (h : ISrc w v xs) (ho : Only Nix w w') : ISrc w' v xs := h.only ho (fun _ _ e => e.elim)
theorem ISrc.at_ {w : World} {A : Option Addr} {n c : Nat} {xs : List Int} (h : ISrc w (.slice A n c) xs) {k : Nat} (hk : k < xs.length) : ∃ ad, A = some ad ∧ w.cell? (ad.add k) = some (iv xs[k]) := by
  obtain ⟨A', c', hv, _, hc⟩ := h.form
  injection hv with e1 _ _
  subst e1
  exact hc k hk
theorem ISrc.len {w : World} {A : Option Addr} {n c : Nat} {xs : List Int} (h : ISrc w (.slice A n c) xs) : n = xs.length := by
  obtain ⟨A', c', hv, _⟩ := h.form
  injection hv
theorem ISrc.cap {w : World} {A : Option Addr} {n c : Nat} {xs : List Int} (h : ISrc w (.slice A n c) xs) : xs.length ≤ c := by
  obtain ⟨A', c', hv, h2, _⟩ := h.form
  injection hv with _ _ e3
  omega
theorem ISrc.slice {w : World} {v : Value} {xs : List Int} (h : ISrc w v xs) : ∃ A c, v = .slice A xs.length c := by
  obtain ⟨A, c, hv, _⟩ := h.form
  exact ⟨A, c, hv⟩
/-- a piece of it -/
theorem ISrc.sub {w : World} {ad : Addr} {n c : Nat} {xs : List Int} (h : ISrc w (.slice (some ad) n c) xs) (i m : Nat) (hi : i + m ≤ xs.length) (c' : Nat) (hc : m ≤ c') : ISrc w (.slice (some (ad.add i)) m c') ((xs.drop i).take m) := by
  have hl : ((xs.drop i).take m).length = m := by simp; omega
  refine ⟨⟨some (ad.add i), c', by rw [hl], by omega, fun j hj => ?_⟩, by have := h.small; omega, fun x hx => h.fits x (List.mem_of_mem_drop (List.mem_of_mem_take hx))⟩
  have hj2 : i + j < xs.length := by omega
  obtain ⟨ad', e, hx⟩ := h.at_ hj2
  injection e with e
  subst e
  refine ⟨_, rfl, ?_⟩
  rw [add_add, hx]
  simp
/-- what lies in a block -/
theorem ISrc.of_box {w : World} {g c n : Nat} {xs : List Int} {t : TypeId} (h : Box w g t (xs.map iv).toArray) (hn : xs.length = n) (hc : n ≤ c) (hs : xs.length ≤ 140737488355328) (hf : ∀ x ∈ xs, -9223372036854775808 ≤ x ∧ x ≤ 9223372036854775807) : ISrc w (.slice (some ⟨g, 0, none⟩) n c) xs := by
  refine ⟨⟨_, c, by rw [hn], by omega, fun j hj => ⟨_, rfl, ?_⟩⟩, hs, hf⟩
  rw [Addr.add_lit, Nat.zero_add, h.cell]
  simp [hj]
/-- the greatest number -/
def mxI : List Int → Int
  | [] => 0
  | x :: xs => xs.foldl max x
theorem mxI_snoc (xs : List Int) (h : xs ≠ []) (y : Int) : mxI (xs ++ [y]) = max (mxI xs) y := by
  cases xs with
  | nil => exact absurd rfl h
  | cons x xs => simp [mxI]
theorem foldl_max_spec (xs : List Int) : ∀ a : Int, (xs.foldl max a = a ∨ xs.foldl max a ∈ xs) ∧ a ≤ xs.foldl max a ∧ ∀ x ∈ xs, x ≤ xs.foldl max a := by
  induction xs with
  | nil => intro a; simp
  | cons x xs ih =>
    intro a
    obtain ⟨h1, h2, h3⟩ := ih (max a x)
    rw [List.foldl_cons]
    refine ⟨?_, by omega, fun y hy => ?_⟩
    · rcases h1 with h1 | h1
      · rw [h1]
        by_cases hax : x ≤ a
        · exact .inl (by omega)
        · refine .inr (List.mem_cons.2 (.inl (by omega)))
      · exact .inr (List.mem_cons_of_mem _ h1)
    · rcases List.mem_cons.1 hy with rfl | hy
      · omega
      · exact h3 y hy
theorem mxI_mem {xs : List Int} (h : 0 < xs.length) : mxI xs ∈ xs := by
  cases xs with
  | nil => simp at h
  | cons x xs =>
    rcases (foldl_max_spec xs x).1 with h1 | h1
    · rw [show mxI (x :: xs) = x from h1]; exact List.mem_cons_self ..
    · exact List.mem_cons_of_mem _ h1
theorem mxI_le {xs : List Int} : ∀ x ∈ xs, x ≤ mxI xs := by
  cases xs with
  | nil => simp
  | cons y xs =>
    intro x hx
    rcases List.mem_cons.1 hx with rfl | hx
    · exact (foldl_max_spec xs x).2.1
    · exact (foldl_max_spec xs y).2.2 x hx
def MaxP (w : World) (xs : List Int) (s3 s4 : Value) (wr : World) : Prop := ∃ j : Nat, 1 ≤ j ∧ j ≤ xs.length ∧ s3 = iv (mxI (xs.take j)) ∧ s4 = iv j ∧ w = wr
set_option maxHeartbeats 1000000 in
theorem max_any {w : World} (A : Option Addr) (c : Nat) (xs : List Int) (hx : ISrc w (.slice A xs.length c) xs) (h1 : 1 ≤ xs.length) :
    Calls Tryz.prog 123 #[.slice A xs.length c] w fun e w' => e = .returned (iv (mxI xs)) ∧ w = w' := by
  have hsm := hx.small
  have HX := Lib.hid hx
  clear hx
  obtain ⟨ad, rfl, hx0⟩ := HX.out.at_ (k := 0) (by omega)
  rw [Addr.add_zero'] at hx0
  have e0 : mxI (xs.take 1) = xs[0] := by
    obtain ⟨x, r, rfl⟩ : ∃ x r, xs = x :: r := by cases xs with | nil => simp at h1 | cons x r => exact ⟨x, r, rfl⟩
    rfl
  have H0 := Lib.hid e0
  clear e0
  have g5 : ¬ xs.length = 0 := by omega
  have g6 : ¬ xs.length < 1 := by omega
  have g3 : ¬ ((xs.length : Int) < 1) := by omega
  have HE : Hid (xs.take xs.length = xs) := Lib.hid (List.take_length)
  generalize xs[0] = x0 at *
  generalize hN : xs.length = N at *
  have HN := Lib.hid hN
  clear hN
  go_enter Tryz.func123, Tryz.ntmps123
  go_wp2
  go_loopw [3, 4] (fun s3 s4 wr => MaxP w xs s3 s4 wr) (fun _ s4 _ => N - (intOf s4).toNat)
  case atStart => exact ⟨1, Nat.le_refl _, by rw [HN.out]; omega, by rw [H0.out], rfl, rfl⟩
  case round =>
    obtain ⟨j, hj1, hj, rfl, rfl, rfl⟩ := hrel
    rw [HN.out] at hj
    by_cases hlt : j < N
    · have hltx : j < xs.length := by rw [HN.out]; exact hlt
      obtain ⟨ad', e1, hxj⟩ := HX.out.at_ hltx
      injection e1 with e1
      subst e1
      have hft := HX.out.fits _ (List.getElem_mem hltx)
      have hlt2 : (j : Int) < (N : Int) := by omega
      have HS : Hid (mxI (xs.take (j + 1)) = max (mxI (xs.take j)) xs[j]) := by
        refine Lib.hid ?_
        rw [List.take_succ_eq_append_getElem hltx]
        exact mxI_snoc _ (by intro e; have := congrArg List.length e; rw [List.length_take, HN.out, List.length_nil] at this; omega) _
      generalize xs[j] = x at *
      clear hltx
      generalize mxI (xs.take j) = M at *
      go_wp2
      all_goals go_roundw
      all_goals first
        | (case rel => exact ⟨j + 1, by omega, by rw [HN.out]; omega, by rw [HS.out]; congr 1; omega, by go_num, rfl⟩)
        | (case measure => simp [intOf]; omega)
    · obtain rfl : j = N := by omega
      rw [HE.out]
      go_wp2
      go_ret
      exact ⟨rfl, rfl⟩
end Go.Proofs.YteklfkpeaadinaaGreatDoor
namespace Go.Proofs.YteklfkpeaadinaaGreatDoor
open Go.RowKit

theorem Tryz.info_int : (Tryz.prog.info? 3).map (fun i => (i.zero, i.size, i.bytes)) = some (some (.int .i64 0), 1, 8) := by kernel_rfl
/-- noughts in a new block -/
theorem made_ints (n : Nat) : madeCells #[.int .i64 0] n = (List.replicate n (iv 0)).toArray := by
  apply Array.ext
  · simp [madeCells]
  · intro i h1 h2
    simp [madeCells, Nat.mod_one]
/-- folded numbers -/
def fds (xs : List Int) : List Int := xs.map fun x => (fd x : Int)
/-- foldAll's cells on the way -/
def fdC (xs : List Int) (j : Nat) : List Value := (xs.take j).map (fun x => iv (fd x : Nat)) ++ List.replicate (xs.length - j) (iv 0)
theorem fdC_zero (xs : List Int) : fdC xs 0 = List.replicate xs.length (iv 0) := by simp [fdC]
theorem fdC_all (xs : List Int) : fdC xs xs.length = (fds xs).map iv := by simp [fdC, fds]
theorem fdC_step (xs : List Int) (j : Nat) (h : j < xs.length) : (fdC xs j).toArray.setIfInBounds j (iv (fd xs[j] : Nat)) = (fdC xs (j + 1)).toArray := by
  unfold fdC
  rw [List.setIfInBounds_toArray, List.set_append_right _ _ (by simp; omega)]
  congr 1
  have e1 : j - (List.map (fun x => iv (fd x : Nat)) (xs.take j)).length = 0 := by simp; omega
  have e2 : xs.length - j = (xs.length - (j + 1)) + 1 := by omega
  rw [e1, e2, List.replicate_succ, List.set_cons_zero, List.take_succ_eq_append_getElem h, List.map_append, List.append_assoc]
  rfl
def FoldP (w : World) (xs : List Int) (s12 : Value) (wr : World) : Prop := ∃ j : Nat, j ≤ xs.length ∧ s12 = iv j ∧ (∀ x ∈ xs.take j, isR x) ∧ Box wr w.heap.size 3 (fdC xs j).toArray ∧ Only Nix w wr
set_option maxHeartbeats 1000000 in
theorem foldAll_any {w : World} (A : Option Addr) (c : Nat) (xs : List Int) (hx : ISrc w (.slice A xs.length c) xs) (h6 : xs.length ≤ 65535) :
    Calls Tryz.prog 97 #[.slice A xs.length c] w fun e w' =>
      (((∀ x ∈ xs, isR x) ∧ e = .returned (.tuple #[.slice (some ⟨w.heap.size, 0, none⟩) xs.length xs.length, iv 0]) ∧ Box w' w.heap.size 3 ((fds xs).map iv).toArray) ∨
       (¬ (∀ x ∈ xs, isR x) ∧ e = .returned (.tuple #[.slice none 0 0, iv 10]))) ∧ Only Nix w w' := by
  have hmk := fun (u : World) => run_make_row' (P := Tryz.prog) 22 3 (.int .i64 0) 8 Tryz.underlying22 Tryz.info_int rfl .i64 .i64 xs.length (by omega) (by omega) u
  simp only [made_ints] at hmk
  have HX := Lib.hid hx
  clear hx
  have HB := Lib.hid (Box.new w 3 (List.replicate xs.length (iv 0)).toArray)
  have HO := Lib.hid ((Only.refl Nix w).alloc (.cells (List.replicate xs.length (iv 0)).toArray 3))
  rw [← fdC_zero] at HB HO
  simp only [← fdC_zero] at hmk
  have HZ : Hid (fdC xs xs.length = (fds xs).map iv) := Lib.hid (fdC_all xs)
  have HT : Hid (xs.take xs.length = xs) := Lib.hid List.take_length
  generalize hN : xs.length = N at *
  have HN := Lib.hid hN
  clear hN
  generalize hC : fdC xs 0 = C0 at *
  have HC := Lib.hid hC
  clear hC
  go_enter Tryz.func97, Tryz.ntmps97
  go_wp2
  go_loopw [12] (fun s12 wr => FoldP w xs s12 wr) (fun s12 _ => N - (intOf s12).toNat)
  case atStart => exact ⟨0, Nat.zero_le _, rfl, by simp, by rw [HC.out]; exact HB.out, HO.out⟩
  case round =>
    obtain ⟨j, hj, rfl, hal, hB, hO⟩ := hrel
    rw [HN.out] at hj
    have Hal := Lib.hid hal
    clear hal
    by_cases hlt : j < N
    · have hltx : j < xs.length := by rw [HN.out]; exact hlt
      obtain ⟨ad, rfl, hxj0⟩ := HX.out.at_ hltx
      have hxj := cell_keep hO hxj0
      clear hxj0
      have hft := HX.out.fits _ (List.getElem_mem hltx)
      have HM := Lib.hid (List.getElem_mem hltx)
      have HS := Lib.hid (fdC_step xs j hltx)
      have HE := Lib.hid (List.take_succ_eq_append_getElem hltx)
      have hlt2 : (j : Int) < (N : Int) := by omega
      have hcj : wr.cell? ⟨w.heap.size, j, none⟩ = some (iv 0) := by
        rw [hB.cell]
        unfold fdC
        rw [List.getElem?_toArray, List.getElem?_append_right (by simp; omega), List.getElem?_replicate]
        simp
        omega
      have hfj := hB.frozen j
      generalize xs[j] = x at *
      clear hltx
      have HI := Lib.hid (isResidual_any wr x)
      by_cases hR : isR x
      · rw [decide_eq_true hR] at HI
        have HF := Lib.hid (fold_any wr x hR)
        have hfl := fd_lt hR
        have HR := Lib.hid hR
        clear hR
        generalize hF : fd x = f at *
        have HF2 := Lib.hid hF
        clear hF
        go_wp2_with fail
        refine (HI.out).mono ?_
        rintro e w1 ⟨rfl, rfl⟩
        go_wp2_with fail
        refine (HF.out).mono ?_
        rintro e w1 ⟨rfl, rfl⟩
        go_wp2
        go_roundw
        case rel =>
          refine ⟨j + 1, by rw [HN.out]; omega, by go_num, fun y hy => ?_, ?_, hO.setCell (p := ⟨w.heap.size, j, none⟩) (.inr (Nat.le_refl _)) _⟩
          · rw [HE.out] at hy
            rcases List.mem_append.1 hy with hy | hy
            · exact Hal.out y hy
            · simp at hy; subst hy; exact HR.out
          · have := hB.put j (iv (f : Nat))
            rw [HS.out] at this
            exact this
        case measure => simp [intOf]; omega
      · rw [decide_eq_false hR] at HI
        have HR := Lib.hid hR
        clear hR
        go_wp2_with fail
        refine (HI.out).mono ?_
        rintro e w1 ⟨rfl, rfl⟩
        go_wp2
        go_ret2
        exact ⟨.inr ⟨fun h => HR.out (h x HM.out), rfl⟩, hO⟩
    · obtain rfl : j = N := by omega
      rw [HT.out] at Hal
      rw [HZ.out] at hB
      have hlt2 : decide (j < j) = false := by simp
      go_wp2
      go_ret2
      exact ⟨.inl ⟨Hal.out, rfl, hB⟩, hO⟩
end Go.Proofs.YteklfkpeaadinaaGreatDoor
namespace Go.Proofs.YteklfkpeaadinaaGreatDoor
open Go.RowKit

/-- a plan as a value -/
abbrev planV (m o : Int) (vp vb : Value) : Value := .agg #[iv m, iv o, vp, vb]
/-- what is wrong with a plan's head -/
def ckH (m o b s : Int) : Int := if ckB b s ≠ 0 then 1 else if m < 0 ∨ 2 ≤ m ∨ o < 0 ∨ 15 < o then 10 else ckP o.toNat b.toNat s.toNat
/-- may all parts be -/
def allP (m : Int) (ps bs : List Int) : Prop := ∀ i, (hi : i < ps.length) → (hb : i < bs.length) → isP m ps[i] bs[i]
/-- what is wrong with a plan -/
noncomputable def ckC (m o : Int) (ps bs : List Int) (b s : Int) : Int :=
  if ckH m o b s ≠ 0 then ckH m o b s else if ps.length ≠ 2 ^ o.toNat ∨ bs.length ≠ 2 ^ o.toNat then 1 else @ite _ (allP m ps bs) (Classical.propDecidable _) 0 10
def ChkP (w1 : World) (m : Int) (ps bs : List Int) (s62 : Value) (wr : World) : Prop := ∃ j : Nat, j ≤ ps.length ∧ s62 = iv j ∧ (∀ i, (hi : i < ps.length) → (hb : i < bs.length) → i < j → isP m ps[i] bs[i]) ∧ ∃ k, wr = w1.drewN k
set_option maxHeartbeats 2000000 in
theorem check_parts {w : World} (m : Int) (o b s : Nat) (hm : m = 0 ∨ m = 1) (ho : o ≤ 15) (hb : b ≤ 65535) (hB : ckB b s = 0) (hP : ckP o b s = 0) (A A' : Option Addr) (c c' : Nat) (ps bs : List Int)
    (hx : ISrc w (.slice A ps.length c) ps) (hy : ISrc w (.slice A' bs.length c') bs) (C : Int) (hC : C = if ps.length ≠ 2 ^ o ∨ bs.length ≠ 2 ^ o then 1 else @ite _ (allP m ps bs) (Classical.propDecidable _) 0 10) :
    Calls Tryz.prog 96 #[planV m o (.slice A ps.length c) (.slice A' bs.length c'), iv b, iv s] w fun e w' => e = .returned (iv C) ∧ Only Nix w w' := by
  obtain ⟨w1, hw1⟩ : ∃ w1, w1 = w.alloc (.cells #[iv m, iv o, .slice A ps.length c, .slice A' bs.length c'] 26) := ⟨_, rfl⟩
  have HB := Lib.hid (checkBlock_any w1 b s)
  have HP := Lib.hid (checkParting_any w1 o b s ho hb)
  rw [hB] at HB
  rw [hP] at HP
  have hm0 : 0 ≤ m := by omega
  have hm2 : m < 2 := by omega
  have ho15 : (o : Int) ≤ 15 := by omega
  have HBx := Lib.hid (Box.new w 26 #[iv m, iv o, .slice A ps.length c, .slice A' bs.length c'])
  have HO := Lib.hid ((Only.refl Nix w).alloc (.cells #[iv m, iv o, .slice A ps.length c, .slice A' bs.length c'] 26))
  rw [← hw1] at HBx HO
  have hp1 := hx.small
  have hp2 := hy.small
  have HX := Lib.hid hx
  have HY := Lib.hid hy
  clear hx hy hB hP
  have d0 := HBx.out.cell 0
  have d1 := HBx.out.cell 1
  have d2 := HBx.out.cell 2
  have d3 := HBx.out.cell 3
  simp only [List.getElem?_toArray, List.getElem?_cons_zero, List.getElem?_cons_succ] at d0 d1 d2 d3
  obtain ⟨P, hPp⟩ : ∃ P : Nat, Hid (2 ^ o = P) := ⟨_, Lib.hid rfl⟩
  have hP2 : P ≤ 32768 := by rw [← hPp.out]; exact Nat.pow_le_pow_right (by decide) ho
  have hP0 : 0 < P := by rw [← hPp.out]; exact Nat.two_pow_pos o
  have hpw : (2 : Int) ^ o = (P : Int) := by rw [pow_cast, hPp.out]
  rw [hPp.out] at hC
  have HC := Lib.hid hC
  have HM := Lib.hid hm
  clear hC hm
  generalize hNp : ps.length = Np at *
  generalize hNb : bs.length = Nb at *
  have HNp := Lib.hid hNp
  have HNb := Lib.hid hNb
  clear hNp hNb
  have hw1a : w.alloc (.cells #[iv m, iv o, .slice A Np c, .slice A' Nb c'] 26) = w1 := hw1.symm
  clear hw1
  by_cases h1 : Np = P
  · by_cases h2 : Nb = P
    · subst h1
      subst h2
      go_enter Tryz.func96, Tryz.ntmps96
      go_wp2_with fail
      refine (HB.out).mono ?_
      rintro e w2 ⟨rfl, rfl⟩
      go_wp2_with fail
      refine (HP.out).mono ?_
      rintro e w2 ⟨rfl, rfl⟩
      go_wp2
      go_loopw [62] (fun s62 wr => ChkP w1 m ps bs s62 wr) (fun s62 _ => Nb - (intOf s62).toNat)
      case atStart => exact ⟨0, by omega, rfl, fun i _ _ h => by omega, 0, rfl⟩
      case round =>
        obtain ⟨j, hj, rfl, hal, k, rfl⟩ := hrel
        rw [HNp.out] at hj
        have Hal := Lib.hid hal
        clear hal
        by_cases hlt : j < Nb
        · have hltp : j < ps.length := by rw [HNp.out]; exact hlt
          have hltb : j < bs.length := by rw [HNb.out]; exact hlt
          obtain ⟨ad, rfl, hxj0⟩ := HX.out.at_ hltp
          have hxj := cell_keep (HO.out.drewN k) hxj0
          obtain ⟨ad', rfl, hyj0⟩ := HY.out.at_ hltb
          have hyj := cell_keep HO.out hyj0
          clear hxj0 hyj0
          have hlt2 : (j : Int) < (Nb : Int) := by omega
          have HI : ∀ n, Hid (Calls Tryz.prog 121 #[iv m, iv ps[j], iv bs[j]] (w1.drewN n) fun e w' => e = .returned (.bool (decide (isP m ps[j] bs[j]))) ∧ w1.drewN n = w') := fun n => Lib.hid (isPart_any _ m _ _ HM.out)
          have HQ : Hid (isP m ps[j] bs[j] ↔ isP m (ps[j]'hltp) (bs[j]'hltb)) := Lib.hid Iff.rfl
          generalize hpj : ps[j]'hltp = pj at hxj HI HQ ⊢
          generalize hbj : bs[j]'hltb = bj at hyj HI HQ ⊢
          have Hpj := Lib.hid hpj
          have Hbj := Lib.hid hbj
          clear hpj hbj HQ
          go_wp2
          go_quiet ((go_at_call 121; exact still_at2 ((HI _).out)))
          by_cases hI : isP m pj bj
          · rw [decide_eq_true hI]
            have HIp := Lib.hid hI
            clear hI
            go_wp2
            go_roundw
            case rel =>
              refine ⟨j + 1, by rw [HNp.out]; omega, by go_num, fun i h1 h2 hij => ?_, _, rfl⟩
              by_cases e : i = j
              · subst e; rw [Hpj.out, Hbj.out]; exact HIp.out
              · exact Hal.out i h1 h2 (by omega)
            case measure => simp [intOf]; omega
          · rw [decide_eq_false hI]
            have HIp := Lib.hid hI
            clear hI
            go_wp2
            go_ret
            refine ⟨?_, (HO.out.drewN _).drewN _⟩
            rw [HC.out, if_neg (by simp), if_neg]
            · rfl
            · intro h
              have := h j hltp hltb
              rw [Hpj.out, Hbj.out] at this
              exact HIp.out this
        · obtain rfl : j = Nb := by omega
          have hlt2 : decide (j < j) = false := by simp
          go_wp2
          go_ret
          refine ⟨?_, HO.out.drewN _⟩
          rw [HC.out, if_neg (by simp), if_pos]
          · rfl
          · intro i hi hb2
            exact Hal.out i hi hb2 (by rw [HNp.out] at hi; omega)
    · subst h1
      have HC2 : C = 1 := by rw [HC.out, if_pos (.inr h2)]
      subst HC2
      have h3 : ((Nb : Int) != (Np : Int)) = true := by simp; omega
      go_enter Tryz.func96, Tryz.ntmps96
      go_wp2_with fail
      refine (HB.out).mono ?_
      rintro e w2 ⟨rfl, rfl⟩
      go_wp2_with fail
      refine (HP.out).mono ?_
      rintro e w2 ⟨rfl, rfl⟩
      go_wp2
      go_ret
      exact ⟨rfl, HO.out⟩
  · have HC2 : C = 1 := by rw [HC.out, if_pos (.inl h1)]
    subst HC2
    have h3 : ((Np : Int) != (P : Int)) = true := by simp; omega
    go_enter Tryz.func96, Tryz.ntmps96
    go_wp2_with fail
    refine (HB.out).mono ?_
    rintro e w2 ⟨rfl, rfl⟩
    go_wp2_with fail
    refine (HP.out).mono ?_
    rintro e w2 ⟨rfl, rfl⟩
    go_wp2
    go_ret
    exact ⟨rfl, HO.out⟩
set_option maxHeartbeats 2000000 in
theorem check_head {w : World} (m o b s : Int) (v v' : Value) (_ : v.cells = #[v]) (_ : v'.cells = #[v']) (h : ckH m o b s ≠ 0) :
    Calls Tryz.prog 96 #[planV m o v v', iv b, iv s] w fun e w' => e = .returned (iv (ckH m o b s)) ∧ Only Nix w w' := by
  obtain ⟨w1, hw1⟩ : ∃ w1, w.alloc (.cells #[iv m, iv o, v, v'] 26) = w1 := ⟨_, rfl⟩
  have HB := Lib.hid (checkBlock_any w1 b s)
  have HBx := Lib.hid (Box.new w 26 #[iv m, iv o, v, v'])
  have HO := Lib.hid ((Only.refl Nix w).alloc (.cells #[iv m, iv o, v, v'] 26))
  rw [hw1] at HBx HO
  have d0 := HBx.out.cell 0
  have d1 := HBx.out.cell 1
  simp only [List.getElem?_toArray, List.getElem?_cons_zero, List.getElem?_cons_succ] at d0 d1
  obtain ⟨E, hE⟩ : ∃ E, ckH m o b s = E := ⟨_, rfl⟩
  rw [hE]
  unfold ckH at hE
  rw [← hE]
  by_cases h1 : ckB b s = 0
  · rw [if_neg (by simpa using h1)] at hE ⊢
    rw [h1] at HB
    have hb : 1 ≤ b ∧ b ≤ 65535 ∧ 0 ≤ s ∧ s ≤ 32 := by
      unfold ckB at h1
      split at h1
      · cases h1
      · omega
    clear h1
    by_cases h2 : m < 0
    · rw [if_pos (.inl h2)]
      clear hE h
      go_enter Tryz.func96, Tryz.ntmps96
      go_wp2_with fail
      refine (HB.out).mono ?_
      rintro e w2 ⟨rfl, rfl⟩
      go_wp2
      go_ret
      exact ⟨rfl, HO.out⟩
    · by_cases h3 : 2 ≤ m
      · rw [if_pos (.inr (.inl h3))]
        clear hE h
        go_enter Tryz.func96, Tryz.ntmps96
        go_wp2_with fail
        refine (HB.out).mono ?_
        rintro e w2 ⟨rfl, rfl⟩
        go_wp2
        go_ret
        exact ⟨rfl, HO.out⟩
      · by_cases h4 : o < 0
        · rw [if_pos (.inr (.inr (.inl h4)))]
          clear hE h
          go_enter Tryz.func96, Tryz.ntmps96
          go_wp2_with fail
          refine (HB.out).mono ?_
          rintro e w2 ⟨rfl, rfl⟩
          go_wp2
          go_ret
          exact ⟨rfl, HO.out⟩
        · by_cases h5 : 15 < o
          · rw [if_pos (.inr (.inr (.inr h5)))]
            clear hE h
            go_enter Tryz.func96, Tryz.ntmps96
            go_wp2_with fail
            refine (HB.out).mono ?_
            rintro e w2 ⟨rfl, rfl⟩
            go_wp2
            go_ret
            exact ⟨rfl, HO.out⟩
          · rw [if_neg (by omega)] at hE ⊢
            obtain ⟨o, rfl⟩ := Int.eq_ofNat_of_zero_le (show 0 ≤ o by omega)
            obtain ⟨b, rfl⟩ := Int.eq_ofNat_of_zero_le (show 0 ≤ b by omega)
            obtain ⟨s, rfl⟩ := Int.eq_ofNat_of_zero_le (show 0 ≤ s by omega)
            have HP := Lib.hid (checkParting_any w1 o b s (by omega) (by omega))
            have hn : ckP o b s ≠ 0 := by
              have h' := h
              unfold ckH at h'
              simp only [Int.toNat_natCast] at h' hE
              rw [if_neg, if_neg (by omega)] at h'
              · exact h'
              · unfold ckB
                rw [if_neg (by omega)]
                simp
            simp only [Int.toNat_natCast]
            clear hE h
            have hn2 : (ckP o b s != 0) = true := by simpa using hn
            generalize ckP o b s = C at *
            go_enter Tryz.func96, Tryz.ntmps96
            go_wp2_with fail
            refine (HB.out).mono ?_
            rintro e w2 ⟨rfl, rfl⟩
            go_wp2_with fail
            refine (HP.out).mono ?_
            rintro e w2 ⟨rfl, rfl⟩
            go_wp2
            go_ret
            exact ⟨rfl, HO.out⟩
  · rw [if_pos h1]
    have h1b : ckB b s = 1 := by
      unfold ckB at h1 ⊢
      split
      · rfl
      · rename_i hh; rw [if_neg hh] at h1; exact absurd rfl h1
    rw [h1b] at HB
    clear hE h
    go_enter Tryz.func96, Tryz.ntmps96
    go_wp2_with fail
    refine (HB.out).mono ?_
    rintro e w2 ⟨rfl, rfl⟩
    go_wp2
    go_ret
    exact ⟨rfl, HO.out⟩
end Go.Proofs.YteklfkpeaadinaaGreatDoor
namespace Go.Proofs.YteklfkpeaadinaaGreatDoor
open Go.RowKit

/-- numbers without a sign as ints -/
def ivs (ns : List Nat) : List Int := ns.map fun (n : Nat) => (n : Int)
theorem ivs_len (ns : List Nat) : (ivs ns).length = ns.length := by simp [ivs]
/-- the greatest one -/
def mxN (ns : List Nat) : Nat := (mxI (ivs ns)).toNat
theorem mxN_mem {ns : List Nat} (h : 0 < ns.length) : mxN ns ∈ ns := by
  have h1 := mxI_mem (xs := ivs ns) (by rw [ivs_len]; exact h)
  unfold ivs at h1
  obtain ⟨x, hx, e⟩ := List.mem_map.1 h1
  unfold mxN ivs
  rw [← e, Int.toNat_natCast]
  exact hx
theorem mxN_le {ns : List Nat} : ∀ x ∈ ns, x ≤ mxN ns := by
  intro x hx
  have := mxI_le (xs := ivs ns) (x : Int) (List.mem_map.2 ⟨x, hx, rfl⟩)
  unfold mxN
  omega
theorem mxI_ivs {ns : List Nat} (h : 0 < ns.length) : mxI (ivs ns) = (mxN ns : Int) := by
  have h1 := mxI_mem (xs := ivs ns) (by rw [ivs_len]; exact h)
  unfold ivs at h1
  obtain ⟨x, hx, e⟩ := List.mem_map.1 h1
  unfold mxN ivs
  rw [← e, Int.toNat_natCast]
/-- what numbers have beside their last p bits -/
def hiS (p : Nat) (ns : List Nat) : Nat := (ns.map fun n => n / 2 ^ p).sum
theorem hiS_snoc (p : Nat) (ns : List Nat) (n : Nat) : hiS p (ns ++ [n]) = hiS p ns + n / 2 ^ p := by simp [hiS]
theorem hiS_bound (p : Nat) (ns : List Nat) (h : ∀ n ∈ ns, n < 4294967296) : hiS p ns ≤ 4294967296 * ns.length := by
  induction ns with
  | nil => simp [hiS]
  | cons n ns ih =>
    have h1 := ih (fun x hx => h x (List.mem_cons_of_mem _ hx))
    have h2 := h n (List.mem_cons_self ..)
    have h3 := Nat.div_le_self n (2 ^ p)
    unfold hiS at h1 ⊢
    rw [List.map_cons, List.sum_cons, List.length_cons]
    omega
/-- how many bits a part has by a parameter; raw -/
def szK (m p : Nat) (ns : List Nat) : Nat := 4 + m + (1 + p) * ns.length + hiS p ns
def szR (m wd : Nat) (ns : List Nat) : Nat := 4 + m + 5 + wd * ns.length
/-- where the closure's numbers lie -/
structure Told (w : World) (B : Nat) (m : Nat) (v : Value) (ns : List Nat) : Prop where
  b0 : Box w B 3 #[iv m]
  b1 : Box w (B + 1) 22 #[v]
  b2 : Box w (B + 2) 3 #[iv (mxN ns)]
  src : ISrc w v (ivs ns)
theorem Told.nix {w w' : World} {B m : Nat} {v : Value} {ns : List Nat} (h : Told w B m v ns) (ho : Only Nix w w') : Told w' B m v ns :=
  ⟨h.b0.only ho (fun e => e), h.b1.only ho (fun e => e), h.b2.only ho (fun e => e), h.src.nix ho⟩
/-- the closure -/
abbrev tellV (B : Nat) : Value := .func (.func 124) #[] #[.pointer (some ⟨B, 0, none⟩), .pointer (some ⟨B + 1, 0, none⟩), .pointer (some ⟨B + 2, 0, none⟩)]
set_option maxHeartbeats 1000000 in
theorem cost_any {w : World} (m : Nat) (A : Option Addr) (c : Nat) (ns : List Nat) (hx : ISrc w (.slice A ns.length c) (ivs ns)) (h1 : 1 ≤ ns.length) :
    Calls Tryz.prog 98 #[iv m, .slice A ns.length c] w fun e w' => e = .returned (tellV w.heap.size) ∧ Told w' w.heap.size m (.slice A ns.length c) ns ∧ Only Nix w w' ∧ w'.heap.size = w.heap.size + 3 := by
  have o1 := ((Only.refl Nix w).alloc (.cells #[iv m] 3)).alloc (.cells #[.slice A ns.length c] 22)
  have HM := Lib.hid (max_any A c (ivs ns) (ISrc.nix (by rw [ivs_len]; exact hx) o1) (by rw [ivs_len]; exact h1))
  rw [mxI_ivs (by omega), ivs_len] at HM
  have HX := Lib.hid hx
  clear hx
  go_enter Tryz.func98, Tryz.ntmps98
  go_wp2_with fail
  refine (HM.out).mono ?_
  rintro e w1 ⟨rfl, rfl⟩
  go_wp2
  go_ret
  refine ⟨rfl, ⟨((Box.new w _ _).alloc _).alloc _, ?_, ?_, HX.out.nix ?_⟩, ?_, by simp⟩
  · have := (Box.new (w.alloc (.cells #[iv m] 3)) 22 #[.slice A ns.length c]).alloc (.cells #[Value.int .i64 (mxN ns)] 3)
    rw [World.size_alloc] at this
    exact this
  · have := Box.new ((w.alloc (.cells #[iv m] 3)).alloc (.cells #[.slice A ns.length c] 22)) 3 #[Value.int .i64 (mxN ns)]
    rw [World.size_alloc, World.size_alloc] at this
    exact this
  · exact o1.alloc _
  · exact o1.alloc _
theorem ret_ib {a b : Int} {p q : Bool} (h : a = b) (h' : p = q) : Ending.returned (.tuple #[.int .i64 a, .bool p]) = .returned (.tuple #[.int .i64 b, .bool q]) := by rw [h, h']
set_option maxHeartbeats 1000000 in
theorem tell_raw {w : World} {B m : Nat} {A : Option Addr} {c : Nat} {ns : List Nat} (h : Told w B m (.slice A ns.length c) ns) (hm : m ≤ 1) (wd : Nat) (hwd : wd ≤ 31) (h1 : 1 ≤ ns.length) (h6 : ns.length ≤ 65535) (hlt : ∀ n ∈ ns, n < 4294967296) :
    Calls Tryz.prog 124 #[iv (-1), iv wd, .pointer (some ⟨B, 0, none⟩), .pointer (some ⟨B + 1, 0, none⟩), .pointer (some ⟨B + 2, 0, none⟩)] w fun e w' => e = .returned (.tuple #[iv (szR m wd ns), .bool (decide (mxN ns < 2 ^ wd))]) ∧ ∃ k, w' = w.drewN k := by
  have HP := Lib.hid (paramSize_any w (m : Int) (by omega))
  have hml := hlt _ (mxN_mem (ns := ns) (by omega))
  have hq : (mxN ns : Int) / 2 ^ wd = ((mxN ns / 2 ^ wd : Nat) : Int) := by rw [pow_cast, ← Int.natCast_ediv]
  have hz : decide (mxN ns < 2 ^ wd) = decide (mxN ns / 2 ^ wd = 0) := by
    rw [decide_eq_decide, Nat.div_eq_zero_iff]
    have := Nat.two_pow_pos wd
    omega
  have hwl : wd * ns.length ≤ 31 * 65535 := Nat.mul_le_mul hwd h6
  have hw0 : (wd : Int) * (ns.length : Int) = ((wd * ns.length : Nat) : Int) := by rw [Int.natCast_mul]
  have HSZ : Hid ((szR m wd ns : Int) = 4 + (m : Int) + 5 + ((wd * ns.length : Nat) : Int)) := Lib.hid (by unfold szR; omega)
  rw [hz]
  have d0 := h.b0.cell 0
  have d1 := h.b1.cell 0
  have d2 := h.b2.cell 0
  simp only [List.getElem?_toArray, List.getElem?_cons_zero] at d0 d1 d2
  clear h hz hlt
  generalize hK : szR m wd ns = SZ at *
  clear hK
  generalize mxN ns / 2 ^ wd = D at *
  generalize wd * ns.length = WL at *
  generalize ns.length = N at *
  generalize mxN ns = M at *
  go_enter Tryz.func124, Tryz.ntmps124
  go_wp2_with fail
  refine (HP.out).mono ?_
  rintro e w1 ⟨rfl, rfl⟩
  go_wp2
  go_quiet (fail)
  go_wp2
  go_ret2
  refine ⟨ret_ib ?_ ?_, _, rfl⟩
  · rw [HSZ.out]
  · by_cases hd : D = 0
    · subst hd; rfl
    · simp [hd]
def TellP (w : World) (base p : Nat) (ns : List Nat) (s9 s36 : Value) (wr : World) : Prop := ∃ j : Nat, j ≤ ns.length ∧ s36 = iv j ∧ s9 = iv ((base + hiS p (ns.take j) : Nat) : Int) ∧ w = wr
set_option maxHeartbeats 1000000 in
theorem tell_coded {w : World} {B m : Nat} {A : Option Addr} {c : Nat} {ns : List Nat} (h : Told w B m (.slice A ns.length c) ns) (hm : m ≤ 1) (p : Nat) (wd : Int) (hp : p ≤ 30) (h1 : 1 ≤ ns.length) (h6 : ns.length ≤ 65535) (hlt : ∀ n ∈ ns, n < 4294967296) :
    Calls Tryz.prog 124 #[iv p, iv wd, .pointer (some ⟨B, 0, none⟩), .pointer (some ⟨B + 1, 0, none⟩), .pointer (some ⟨B + 2, 0, none⟩)] w fun e w' => e = .returned (.tuple #[iv (szK m p ns), .bool (decide (mxN ns / 2 ^ p ≤ 65536))]) ∧ ∃ k, w' = w.drewN k := by
  have HP := Lib.hid (paramSize_any w (m : Int) (by omega))
  have hml := hlt _ (mxN_mem (ns := ns) (by omega))
  have hq : (mxN ns : Int) / 2 ^ p = ((mxN ns / 2 ^ p : Nat) : Int) := by rw [pow_cast, ← Int.natCast_ediv]
  have hql := Nat.div_le_self (mxN ns) (2 ^ p)
  have hwl : (1 + p) * ns.length ≤ 31 * 65535 := Nat.mul_le_mul (by omega) h6
  have hw0 : (1 + (p : Int)) * (ns.length : Int) = (((1 + p) * ns.length : Nat) : Int) := by rw [Int.natCast_mul]; first | done | rfl
  obtain ⟨base, hb⟩ : ∃ base, base = 4 + m + (1 + p) * ns.length := ⟨_, rfl⟩
  have HSZ : Hid (szK m p ns = base + hiS p ns) := Lib.hid (by unfold szK; rw [hb])
  have hbi : 4 + (m : Int) + (((1 + p) * ns.length : Nat) : Int) = (base : Int) := by rw [hb]; omega
  have hbb : base ≤ 2100000 := by omega
  have d0 := h.b0.cell 0
  have d1 := h.b1.cell 0
  have d2 := h.b2.cell 0
  simp only [List.getElem?_toArray, List.getElem?_cons_zero] at d0 d1 d2
  have HX := Lib.hid h.src
  have HL := Lib.hid hlt
  clear h hlt hb
  generalize hK : szK m p ns = SZ at *
  clear hK
  generalize mxN ns / 2 ^ p = D at *
  generalize (1 + p) * ns.length = WL at *
  have HT : Hid (ns.take ns.length = ns) := Lib.hid List.take_length
  generalize hN : ns.length = N at *
  have HN := Lib.hid hN
  clear hN
  generalize mxN ns = M at *
  have hpn : ((p : Int) == -1) = false := by rw [beq_eq_false_iff_ne]; omega
  go_enter Tryz.func124, Tryz.ntmps124
  go_wp2_with fail
  refine (HP.out).mono ?_
  rintro e w1 ⟨rfl, rfl⟩
  go_wp2
  go_loopw [9, 36] (fun s9 s36 wr => TellP w base p ns s9 s36 wr) (fun _ s36 _ => N - (intOf s36).toNat)
  case atStart => exact ⟨0, Nat.zero_le _, rfl, by simp [hiS], rfl⟩
  case round =>
    obtain ⟨j, hj, rfl, rfl, rfl⟩ := hrel
    rw [HN.out] at hj
    by_cases hlt : j < N
    · have hltx : j < (ivs ns).length := by rw [ivs_len, HN.out]; exact hlt
      obtain ⟨ad, rfl, hxj⟩ := HX.out.at_ hltx
      have hltn : j < ns.length := by rw [HN.out]; exact hlt
      have hxe : (ivs ns)[j] = ((ns[j] : Nat) : Int) := by simp [ivs]
      rw [hxe] at hxj
      have hb3 := HL.out _ (List.getElem_mem hltn)
      have HS : Hid (hiS p (ns.take (j + 1)) = hiS p (ns.take j) + ns[j] / 2 ^ p) := Lib.hid (by rw [List.take_succ_eq_append_getElem hltn, hiS_snoc])
      have hsb := hiS_bound p (ns.take j) (fun n hn => HL.out n (List.mem_of_mem_take hn))
      have hsl : (ns.take j).length ≤ 65535 := by rw [List.length_take, HN.out]; omega
      have hlt2 : (j : Int) < (N : Int) := by omega
      have hxd : ((ns[j] : Nat) : Int) / 2 ^ p = ((ns[j] / 2 ^ p : Nat) : Int) := by rw [pow_cast, ← Int.natCast_ediv]
      have hxl := Nat.div_le_self ns[j] (2 ^ p)
      clear hxe
      generalize ns[j] / 2 ^ p = xd at *
      generalize ns[j] = x at *
      clear hltx hltn
      generalize hiS p (ns.take j) = S at *
      generalize (ns.take j).length = SL at *
      go_wp2
      go_roundw
      case rel => exact ⟨j + 1, by rw [HN.out]; omega, by go_num, by rw [HS.out]; congr 1; omega, rfl⟩
      case measure => simp [intOf]; omega
    · obtain rfl : j = N := by omega
      have hlt2 : decide (j < j) = false := by simp
      rw [HT.out, ← HSZ.out]
      have hsb := hiS_bound p ns HL.out
      clear HSZ
      go_wp2
      go_quiet (fail)
      go_wp2
      go_ret2
      refine ⟨ret_ib rfl ?_, _, rfl⟩
      by_cases hd : D ≤ 65536
      · simp [hd]; omega
      · simp [hd]; omega
end Go.Proofs.YteklfkpeaadinaaGreatDoor
