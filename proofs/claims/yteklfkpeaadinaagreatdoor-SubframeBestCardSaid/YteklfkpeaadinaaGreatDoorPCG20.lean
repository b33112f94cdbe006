/-
  Fixed; magnitude.
-/
import Derived.Test.YteklfkpeaadinaaGreatDoorPCG18
import Derived.Test.YteklfkpeaadinaaGreatDoorPCG19
namespace Go.Proofs.YteklfkpeaadinaaGreatDoor.K
open Go.RowKit

/-- the coefficients of a fixed order -/
def fx : Nat → List Int
  | 0 => []
  | 1 => [1]
  | 2 => [2, -1]
  | 3 => [3, -3, 1]
  | _ => [4, -6, 4, -1]
/-- what Fixed answers -/
def FixR (w : World) (k : Nat) (e : Ending) (w' : World) : Prop := (∃ A c, e = .returned (.tuple #[linV 4 0 (.slice A k c), iv 0]) ∧ ISrc w' (.slice A k c) (fx k)) ∧ Only Nix w w'
/-- .. and where they lie -/
def FixN (w : World) (k : Nat) (e : Ending) (w' : World) : Prop := ∃ g c, w.heap.size ≤ g ∧ e = .returned (.tuple #[linV 4 0 (.slice (some ⟨g, 0, none⟩) k c), iv 0]) ∧ ISrc w' (.slice (some ⟨g, 0, none⟩) k c) (fx k) ∧ Only Nix w w'
theorem box_new' (W : World) (b : Nat) (t : TypeId) (cs : Array Value) (h : W.heap.size = b) : Box (W.alloc (.cells cs t)) b t cs := by
  subst h
  exact Box.new W t cs
set_option maxHeartbeats 2000000 in
theorem fixed_0 (w : World) : Calls Tryz.prog 113 #[iv 0] w fun e w' => FixN w 0 e w' := by
  go_enter Tryz.func113, Tryz.ntmps113
  go_wp2
  refine bodyPost_ret (v := .tuple #[linV 4 0 (.slice (some ⟨w.heap.size + 1, 0, none⟩) 0 0), iv 0]) ?_ rfl ?_
  · simp [results, Tryz.f113, go_sem]
  · refine ⟨_, _, ?_, rfl, ?_, ?_⟩
    · omega
    · refine ISrc.of_box (t := 3) ?_ rfl (by decide) (by decide) (by decide)
      refine Box.alloc ?_ _
      refine Box.alloc ?_ _
      refine Box.alloc ?_ _
      refine Box.alloc ?_ _
      refine Box.alloc ?_ _
      exact box_new' _ _ _ _ (by simp)
    · repeat' first | exact Only.refl _ _ | refine Only.alloc ?_ _
set_option maxHeartbeats 2000000 in
theorem fixed_1 (w : World) : Calls Tryz.prog 113 #[iv 1] w fun e w' => FixN w 1 e w' := by
  go_enter Tryz.func113, Tryz.ntmps113
  go_wp2
  refine bodyPost_ret (v := .tuple #[linV 4 0 (.slice (some ⟨w.heap.size + 1 + 1, 0, none⟩) 1 1), iv 0]) ?_ rfl ?_
  · simp [results, Tryz.f113, go_sem]
  · refine ⟨_, _, ?_, rfl, ?_, ?_⟩
    · omega
    · refine ISrc.of_box (t := 3) ?_ rfl (by decide) (by decide) (by decide)
      refine Box.alloc ?_ _
      refine Box.alloc ?_ _
      refine Box.alloc ?_ _
      refine Box.alloc ?_ _
      exact box_new' _ _ _ _ (by simp)
    · repeat' first | exact Only.refl _ _ | refine Only.alloc ?_ _
set_option maxHeartbeats 2000000 in
theorem fixed_2 (w : World) : Calls Tryz.prog 113 #[iv 2] w fun e w' => FixN w 2 e w' := by
  go_enter Tryz.func113, Tryz.ntmps113
  go_wp2
  refine bodyPost_ret (v := .tuple #[linV 4 0 (.slice (some ⟨w.heap.size + 1 + 1 + 1, 0, none⟩) 2 2), iv 0]) ?_ rfl ?_
  · simp [results, Tryz.f113, go_sem]
  · refine ⟨_, _, ?_, rfl, ?_, ?_⟩
    · omega
    · refine ISrc.of_box (t := 3) ?_ rfl (by decide) (by decide) (by decide)
      refine Box.alloc ?_ _
      refine Box.alloc ?_ _
      refine Box.alloc ?_ _
      exact box_new' _ _ _ _ (by simp)
    · repeat' first | exact Only.refl _ _ | refine Only.alloc ?_ _
set_option maxHeartbeats 2000000 in
theorem fixed_3 (w : World) : Calls Tryz.prog 113 #[iv 3] w fun e w' => FixN w 3 e w' := by
  go_enter Tryz.func113, Tryz.ntmps113
  go_wp2
  refine bodyPost_ret (v := .tuple #[linV 4 0 (.slice (some ⟨w.heap.size + 1 + 1 + 1 + 1, 0, none⟩) 3 3), iv 0]) ?_ rfl ?_
  · simp [results, Tryz.f113, go_sem]
  · refine ⟨_, _, ?_, rfl, ?_, ?_⟩
    · omega
    · refine ISrc.of_box (t := 3) ?_ rfl (by decide) (by decide) (by decide)
      refine Box.alloc ?_ _
      refine Box.alloc ?_ _
      exact box_new' _ _ _ _ (by simp)
    · repeat' first | exact Only.refl _ _ | refine Only.alloc ?_ _
set_option maxHeartbeats 2000000 in
theorem fixed_4 (w : World) : Calls Tryz.prog 113 #[iv 4] w fun e w' => FixN w 4 e w' := by
  go_enter Tryz.func113, Tryz.ntmps113
  go_wp2
  refine bodyPost_ret (v := .tuple #[linV 4 0 (.slice (some ⟨w.heap.size + 1 + 1 + 1 + 1 + 1, 0, none⟩) 4 4), iv 0]) ?_ rfl ?_
  · simp [results, Tryz.f113, go_sem]
  · refine ⟨_, _, ?_, rfl, ?_, ?_⟩
    · omega
    · refine ISrc.of_box (t := 3) ?_ rfl (by decide) (by decide) (by decide)
      refine Box.alloc ?_ _
      exact box_new' _ _ _ _ (by simp)
    · repeat' first | exact Only.refl _ _ | refine Only.alloc ?_ _
theorem fixed_new (w : World) (k : Nat) (hk : k ≤ 4) : Calls Tryz.prog 113 #[iv k] w fun e w' => FixN w k e w' := by
  match k, hk with
  | 0, _ => exact fixed_0 w
  | 1, _ => exact fixed_1 w
  | 2, _ => exact fixed_2 w
  | 3, _ => exact fixed_3 w
  | 4, _ => exact fixed_4 w
theorem fixed_any (w : World) (k : Nat) (hk : k ≤ 4) : Calls Tryz.prog 113 #[iv k] w fun e w' => FixR w k e w' :=
  (fixed_new w k hk).mono fun _ _ ⟨_, _, _, h1, h2, h3⟩ => ⟨⟨_, _, h1, h2⟩, h3⟩
theorem fx_ok (k : Nat) (hk : k ≤ 4) : okL 4 0 (fx k) := by
  match k, hk with
  | 0, _ => decide
  | 1, _ => decide
  | 2, _ => decide
  | 3, _ => decide
  | 4, _ => decide
theorem fx_len (k : Nat) (hk : k ≤ 4) : (fx k).length = k := by
  match k, hk with
  | 0, _ => rfl
  | 1, _ => rfl
  | 2, _ => rfl
  | 3, _ => rfl
  | 4, _ => rfl
/-- residuals without their signs, in all -/
def mg (ds : List Int) : Nat := (ds.map Int.natAbs).sum
theorem mg_snoc (ds : List Int) (d : Int) : mg (ds ++ [d]) = mg ds + d.natAbs := by simp [mg]
theorem mg_bound (ds : List Int) (h : ∀ d ∈ ds, -4503599627370496 ≤ d ∧ d ≤ 4503599627370496) : mg ds ≤ 4503599627370496 * ds.length := by
  induction ds with
  | nil => simp [mg]
  | cons d ds ih =>
    have h1 := ih (fun x hx => h x (List.mem_cons_of_mem _ hx))
    have h2 := h d (List.mem_cons_self ..)
    unfold mg at h1 ⊢
    rw [List.map_cons, List.sum_cons, List.length_cons]
    omega
set_option maxHeartbeats 1000000 in
theorem magnitude_any {w : World} (A : Option Addr) (n c : Nat) (ds : List Int) (hd : ISrc w (.slice A n c) ds) (hn : n ≤ 1000) (hb : ∀ d ∈ ds, -4503599627370496 ≤ d ∧ d ≤ 4503599627370496) :
    Calls Tryz.prog 114 #[.slice A n c] w fun e w' => e = .returned (.int .u64 (mg ds : Nat)) ∧ w = w' := by
  have hl := hd.len
  have HD := Lib.hid hd
  have HL := Lib.hid hl
  have HB := Lib.hid hb
  clear hd hl hb
  go_enter Tryz.func114, Tryz.ntmps114
  go_wp2
  go_loopw [3, 8] (fun s3 s8 wr => ∃ j : Nat, j ≤ n ∧ s8 = iv j ∧ s3 = .int .u64 (mg (ds.take j) : Nat) ∧ w = wr) (fun _ s8 _ => n - (intOf s8).toNat)
  case atStart => exact ⟨0, Nat.zero_le _, rfl, rfl, rfl⟩
  case round =>
    obtain ⟨j, hj, rfl, rfl, rfl⟩ := hrel
    by_cases hlt : j < n
    · have hltx : j < ds.length := by rw [← HL.out]; exact hlt
      obtain ⟨ad, rfl, hx⟩ := HD.out.at_ hltx
      have hb := HB.out _ (List.getElem_mem hltx)
      have hS := mg_snoc (ds.take j) ds[j]
      rw [← List.take_succ_eq_append_getElem hltx] at hS
      have HS := Lib.hid hS
      have hm := mg_bound (ds.take j) (fun d hd => HB.out d (List.mem_of_mem_take hd))
      have hml : (ds.take j).length ≤ 1000 := by rw [List.length_take]; omega
      have hm2 : mg (ds.take j) ≤ 4503599627370496000 := by omega
      have hlti : (j : Int) < (n : Int) := by omega
      generalize ds[j] = d at *
      generalize mg (ds.take j) = M at *
      have hmx : max d (-d) = ((d.natAbs : Nat) : Int) := by omega
      obtain ⟨q, hq⟩ : ∃ q, d.natAbs = q := ⟨_, rfl⟩
      rw [hq] at hmx HS
      have hqb : q ≤ 4503599627370496 := by omega
      clear hq hm hml hS hltx
      go_wp2
      go_roundw
      case rel => exact ⟨j + 1, hlt, by go_num, by rw [HS.out]; go_num, trivial⟩
      case measure => simp [intOf]; omega
    · obtain rfl : j = n := by omega
      rw [List.take_of_length_le (by rw [← HL.out]; exact Nat.le_refl _)]
      go_wp2
      go_ret
      exact ⟨rfl, rfl⟩
end Go.Proofs.YteklfkpeaadinaaGreatDoor.K
namespace Go.Proofs.YteklfkpeaadinaaGreatDoor.K
open Go.RowKit

/-- the best of the first ones, and what it leaves -/
def bst (f : Nat → Nat) : Nat → Nat × Nat
  | 0 => (0, 0)
  | k + 1 => if k = 0 ∨ f k < (bst f k).2 then (k, f k) else bst f k
/-- what a fixed order leaves -/
def lf (xs : List Int) (k : Nat) : Nat := mg (resV 4 0 (fx k) xs)
/-- which fixed order is the best one -/
def bestV (xs : List Int) : Nat := if ∀ x ∈ xs, isS x then (bst (lf xs) (min xs.length 5)).1 else 0
theorem resE_fx (xs : List Int) (k : Nat) (hk : k ≤ 4) (hn : k ≤ xs.length) (h : ∀ x ∈ xs, isS x) : resE 4 0 (fx k) xs = 0 := by
  unfold resE
  rw [if_pos (fx_ok k hk), if_neg (by rw [fx_len k hk]; omega), if_pos h]
theorem resV_len (P S : Int) (cs xs : List Int) : (resV P S cs xs).length ≤ xs.length := by
  unfold resV
  split
  · rw [resT_len]; omega
  · simp
theorem lf_bound (xs : List Int) (k : Nat) (hn : xs.length ≤ 1000) : lf xs k ≤ 4503599627370496000 := by
  have h := mg_bound (resV 4 0 (fx k) xs) (resV_bound 4 0 (fx k) xs)
  have h2 := resV_len 4 0 (fx k) xs
  unfold lf
  omega
theorem bst_bound (xs : List Int) (hn : xs.length ≤ 1000) (k : Nat) : (bst (lf xs) k).2 ≤ 4503599627370496000 ∧ (bst (lf xs) k).1 ≤ k := by
  induction k with
  | zero => simp [bst]
  | succ k ih =>
    have := lf_bound xs k hn
    unfold bst
    split
    · exact ⟨this, by simp⟩
    · exact ⟨ih.1, by omega⟩
set_option maxRecDepth 100000 in
set_option maxHeartbeats 4000000 in
theorem best_big {w : World} (A : Option Addr) (n c m : Nat) (xs : List Int) (hxs : ISrc w (.slice A n c) xs) (hn : n ≤ 1000) (h5 : 5 < n) (hm : min n 5 = m) :
    Calls Tryz.prog 89 #[.slice A n c] w fun e w' => e = .returned (iv (bestV xs : Nat)) ∧ Only Nix w w' := by
  have hxl := hxs.len
  have HX := Lib.hid hxs
  have Hxl := Lib.hid hxl
  have h5i : (5 : Int) < (n : Int) := by omega
  have hm5 : m ≤ 5 := by omega
  have hmn : m ≤ n := by omega
  have Hm := Lib.hid hm
  clear hxs hxl hm
  by_cases hal : ∀ x ∈ xs, isS x
  · have HV : Hid (bestV xs = (bst (lf xs) m).1) := Lib.hid (by unfold bestV; rw [if_pos hal, ← Hxl.out, Hm.out])
    have HAl := Lib.hid hal
    clear hal
    go_enter Tryz.func89, Tryz.ntmps89
    go_wp2
    go_loopw [3, 4, 14] (fun s3 s4 s14 wr => ∃ k : Nat, k ≤ m ∧ s14 = iv k ∧ s3 = iv ((bst (lf xs) k).1 : Nat) ∧ s4 = .int .u64 ((bst (lf xs) k).2 : Nat) ∧ Only Nix w wr) (fun _ _ s14 _ => m - (intOf s14).toNat)
    case atStart => exact ⟨0, Nat.zero_le _, rfl, rfl, rfl, Only.refl _ _⟩
    case round =>
      obtain ⟨k, hk, rfl, rfl, rfl, hO⟩ := hrel
      have HO := Lib.hid hO
      clear hO
      by_cases hlt : k < m
      · have hlti : (k : Int) < 5 := by have := Hm.out; omega
        have HF := Lib.hid (fixed_any wr k (by omega))
        have hb := bst_bound xs (by rw [← Hxl.out]; exact hn) k
        have hlb := lf_bound xs k (by rw [← Hxl.out]; exact hn)
        have HB : Hid (bst (lf xs) (k + 1) = if k = 0 ∨ lf xs k < (bst (lf xs) k).2 then (k, lf xs k) else bst (lf xs) k) := Lib.hid rfl
        have HRb := Lib.hid (resV_bound 4 0 (fx k) xs)
        have HRl := Lib.hid (resV_len 4 0 (fx k) xs)
        have HE0 := Lib.hid (resE_fx xs k (by omega) (by rw [← Hxl.out]; omega) HAl.out)
        have HLF : Hid (lf xs k = mg (resV 4 0 (fx k) xs)) := Lib.hid rfl
        generalize bst (lf xs) k = bl at *
        obtain ⟨b, l⟩ := bl
        have hb2 : l ≤ 4503599627370496000 := hb.1
        have HB2 : Hid (b ≤ k) := Lib.hid hb.2
        clear hb
        dsimp only at HB
        go_wp2_with fail
        refine (HF.out).mono ?_
        rintro e w1 ⟨⟨A1, c1, rfl, hI1⟩, o1⟩
        have a1 := (Only.refl Nix w1).alloc (.cells #[iv 4, iv 0, .slice A1 k c1] 24)
        have HO1 := Lib.hid ((HO.out.trans o1).trans a1)
        have HRe := Lib.hid (residual_any 4 0 A1 k c1 (fx k) A n c xs (hI1.nix a1) (HX.out.nix HO1.out) hn)
        clear hI1 o1 HF a1
        go_wp2_with fail
        refine (HRe.out).mono ?_
        rintro e w2 ⟨⟨A2, c2, rfl, hI2⟩, o2⟩
        rw [HE0.out]
        have HMg := Lib.hid (magnitude_any A2 _ c2 (resV 4 0 (fx k) xs) hI2 (by have := HRl.out; have := Hxl.out; omega) HRb.out)
        rw [← HLF.out] at HMg
        have HO2 := Lib.hid (HO1.out.trans o2)
        clear HRe hI2 o2 HRb HRl HE0 HLF
        generalize (resV 4 0 (fx k) xs).length = rl at *
        generalize lf xs k = q at *
        go_wp2_with fail
        refine (HMg.out).mono ?_
        rintro e w3 ⟨rfl, rfl⟩
        by_cases h0 : k = 0 ∨ q < l
        · rw [if_pos h0] at HB
          by_cases hk0 : k = 0
          · subst hk0
            go_wp2
            go_roundw
            case rel => exact ⟨1, by omega, by go_num, by rw [HB.out] <;> rfl, by rw [HB.out] <;> rfl, HO2.out⟩
            case measure => simp [intOf]; omega
          · have hql : q < l := by omega
            have hqli : (q : Int) < (l : Int) := by omega
            have hkd : ((k : Int) == 0) = false := by simp; omega
            go_wp2
            go_roundw
            case rel => exact ⟨k + 1, by omega, by go_num, by rw [HB.out] <;> rfl, by rw [HB.out] <;> rfl, HO2.out⟩
            case measure => simp [intOf]; omega
        · rw [if_neg h0] at HB
          have hql : ¬ q < l := fun h => h0 (.inr h)
          have hk0 : ¬ k = 0 := fun h => h0 (.inl h)
          have hqli : ¬ (q : Int) < (l : Int) := by omega
          have hkd : ((k : Int) == 0) = false := by simp; omega
          clear h0
          go_wp2
          go_roundw
          case rel => exact ⟨k + 1, by omega, by go_num, by rw [HB.out], by rw [HB.out], HO2.out⟩
          case measure => simp [intOf]; omega
      · have hmk : k = m := by omega
        subst hmk
        have hlti : ¬ (k : Int) < 5 := by have := Hm.out; omega
        go_wp2
        go_ret
        exact ⟨by rw [HV.out] <;> rfl, HO.out⟩
  · have HV : Hid (bestV xs = 0) := Lib.hid (if_neg hal)
    have h1 : 0 < n := by
      rw [Hxl.out]
      rcases Nat.eq_zero_or_pos xs.length with h | h
      · exact absurd (fun x hx => by rw [List.length_eq_zero_iff.1 h] at hx; cases hx) hal
      · exact h
    have hE : resE 4 0 (fx 0) xs = 10 := by
      unfold resE
      rw [if_pos (fx_ok 0 (by omega)), if_neg (by rw [fx_len 0 (by omega)]; omega), if_neg hal]
    have HE := Lib.hid hE
    have hV0 : (resV 4 0 (fx 0) xs).length = 0 := by
      unfold resV
      rw [if_neg (by rw [hE]; decide)]
      rfl
    have HV0 := Lib.hid hV0
    clear hE hal hV0
    go_enter Tryz.func89, Tryz.ntmps89
    go_wp2
    go_loopw [3, 4, 14] (fun s3 s4 s14 wr => s14 = iv 0 ∧ s3 = iv 0 ∧ s4 = .int .u64 0 ∧ Only Nix w wr) (fun _ _ _ _ => 0)
    case atStart => exact ⟨rfl, rfl, rfl, Only.refl _ _⟩
    case round =>
      obtain ⟨rfl, rfl, rfl, hO⟩ := hrel
      have HO := Lib.hid hO
      clear hO
      have hlti : (0 : Int) < 5 := by omega
      have HF := Lib.hid (fixed_any wr 0 (by decide))
      go_wp2_with fail
      refine (HF.out).mono ?_
      rintro e w1 ⟨⟨A1, c1, rfl, hI1⟩, o1⟩
      have a1 := (Only.refl Nix w1).alloc (.cells #[iv 4, iv 0, .slice A1 0 c1] 24)
      have HO1 := Lib.hid ((HO.out.trans o1).trans a1)
      have HRe := Lib.hid (residual_any 4 0 A1 0 c1 (fx 0) A n c xs (hI1.nix a1) (HX.out.nix HO1.out) hn)
      clear hI1 o1 HF a1
      go_wp2_with fail
      refine (HRe.out).mono ?_
      rintro e w2 ⟨⟨A2, c2, rfl, hI2⟩, o2⟩
      rw [HE.out, HV0.out]
      have HO2 := Lib.hid (HO1.out.trans o2)
      clear HRe hI2 o2
      go_wp2
      go_ret
      exact ⟨by rw [HV.out] <;> rfl, HO2.out⟩
set_option maxRecDepth 100000 in
set_option maxHeartbeats 4000000 in
theorem best_small {w : World} (A : Option Addr) (n c m : Nat) (xs : List Int) (hxs : ISrc w (.slice A n c) xs) (hn : n ≤ 1000) (h5 : n ≤ 5) (hm : min n 5 = m) :
    Calls Tryz.prog 89 #[.slice A n c] w fun e w' => e = .returned (iv (bestV xs : Nat)) ∧ Only Nix w w' := by
  have hxl := hxs.len
  have HX := Lib.hid hxs
  have Hxl := Lib.hid hxl
  have h5i : (n : Int) ≤ 5 := by omega
  have hm5 : m ≤ 5 := by omega
  have hmn : m ≤ n := by omega
  have Hm := Lib.hid hm
  clear hxs hxl hm
  by_cases hal : ∀ x ∈ xs, isS x
  · have HV : Hid (bestV xs = (bst (lf xs) m).1) := Lib.hid (by unfold bestV; rw [if_pos hal, ← Hxl.out, Hm.out])
    have HAl := Lib.hid hal
    clear hal
    go_enter Tryz.func89, Tryz.ntmps89
    go_wp2
    go_loopw [3, 4, 14] (fun s3 s4 s14 wr => ∃ k : Nat, k ≤ m ∧ s14 = iv k ∧ s3 = iv ((bst (lf xs) k).1 : Nat) ∧ s4 = .int .u64 ((bst (lf xs) k).2 : Nat) ∧ Only Nix w wr) (fun _ _ s14 _ => m - (intOf s14).toNat)
    case atStart => exact ⟨0, Nat.zero_le _, rfl, rfl, rfl, Only.refl _ _⟩
    case round =>
      obtain ⟨k, hk, rfl, rfl, rfl, hO⟩ := hrel
      have HO := Lib.hid hO
      clear hO
      by_cases hlt : k < m
      · have hlti : (k : Int) < (n : Int) := by have := Hm.out; omega
        have HF := Lib.hid (fixed_any wr k (by omega))
        have hb := bst_bound xs (by rw [← Hxl.out]; exact hn) k
        have hlb := lf_bound xs k (by rw [← Hxl.out]; exact hn)
        have HB : Hid (bst (lf xs) (k + 1) = if k = 0 ∨ lf xs k < (bst (lf xs) k).2 then (k, lf xs k) else bst (lf xs) k) := Lib.hid rfl
        have HRb := Lib.hid (resV_bound 4 0 (fx k) xs)
        have HRl := Lib.hid (resV_len 4 0 (fx k) xs)
        have HE0 := Lib.hid (resE_fx xs k (by omega) (by rw [← Hxl.out]; omega) HAl.out)
        have HLF : Hid (lf xs k = mg (resV 4 0 (fx k) xs)) := Lib.hid rfl
        generalize bst (lf xs) k = bl at *
        obtain ⟨b, l⟩ := bl
        have hb2 : l ≤ 4503599627370496000 := hb.1
        have HB2 : Hid (b ≤ k) := Lib.hid hb.2
        clear hb
        dsimp only at HB
        go_wp2_with fail
        refine (HF.out).mono ?_
        rintro e w1 ⟨⟨A1, c1, rfl, hI1⟩, o1⟩
        have a1 := (Only.refl Nix w1).alloc (.cells #[iv 4, iv 0, .slice A1 k c1] 24)
        have HO1 := Lib.hid ((HO.out.trans o1).trans a1)
        have HRe := Lib.hid (residual_any 4 0 A1 k c1 (fx k) A n c xs (hI1.nix a1) (HX.out.nix HO1.out) hn)
        clear hI1 o1 HF a1
        go_wp2_with fail
        refine (HRe.out).mono ?_
        rintro e w2 ⟨⟨A2, c2, rfl, hI2⟩, o2⟩
        rw [HE0.out]
        have HMg := Lib.hid (magnitude_any A2 _ c2 (resV 4 0 (fx k) xs) hI2 (by have := HRl.out; have := Hxl.out; omega) HRb.out)
        rw [← HLF.out] at HMg
        have HO2 := Lib.hid (HO1.out.trans o2)
        clear HRe hI2 o2 HRb HRl HE0 HLF
        generalize (resV 4 0 (fx k) xs).length = rl at *
        generalize lf xs k = q at *
        go_wp2_with fail
        refine (HMg.out).mono ?_
        rintro e w3 ⟨rfl, rfl⟩
        by_cases h0 : k = 0 ∨ q < l
        · rw [if_pos h0] at HB
          by_cases hk0 : k = 0
          · subst hk0
            go_wp2
            go_roundw
            case rel => exact ⟨1, by omega, by go_num, by rw [HB.out] <;> rfl, by rw [HB.out] <;> rfl, HO2.out⟩
            case measure => simp [intOf]; omega
          · have hql : q < l := by omega
            have hqli : (q : Int) < (l : Int) := by omega
            have hkd : ((k : Int) == 0) = false := by simp; omega
            go_wp2
            go_roundw
            case rel => exact ⟨k + 1, by omega, by go_num, by rw [HB.out] <;> rfl, by rw [HB.out] <;> rfl, HO2.out⟩
            case measure => simp [intOf]; omega
        · rw [if_neg h0] at HB
          have hql : ¬ q < l := fun h => h0 (.inr h)
          have hk0 : ¬ k = 0 := fun h => h0 (.inl h)
          have hqli : ¬ (q : Int) < (l : Int) := by omega
          have hkd : ((k : Int) == 0) = false := by simp; omega
          clear h0
          go_wp2
          go_roundw
          case rel => exact ⟨k + 1, by omega, by go_num, by rw [HB.out], by rw [HB.out], HO2.out⟩
          case measure => simp [intOf]; omega
      · have hmk : k = m := by omega
        subst hmk
        have hlti : ¬ (k : Int) < (n : Int) := by have := Hm.out; omega
        go_wp2
        go_ret
        exact ⟨by rw [HV.out] <;> rfl, HO.out⟩
  · have HV : Hid (bestV xs = 0) := Lib.hid (if_neg hal)
    have h1 : 0 < n := by
      rw [Hxl.out]
      rcases Nat.eq_zero_or_pos xs.length with h | h
      · exact absurd (fun x hx => by rw [List.length_eq_zero_iff.1 h] at hx; cases hx) hal
      · exact h
    have hE : resE 4 0 (fx 0) xs = 10 := by
      unfold resE
      rw [if_pos (fx_ok 0 (by omega)), if_neg (by rw [fx_len 0 (by omega)]; omega), if_neg hal]
    have HE := Lib.hid hE
    have hV0 : (resV 4 0 (fx 0) xs).length = 0 := by
      unfold resV
      rw [if_neg (by rw [hE]; decide)]
      rfl
    have HV0 := Lib.hid hV0
    clear hE hal hV0
    go_enter Tryz.func89, Tryz.ntmps89
    go_wp2
    go_loopw [3, 4, 14] (fun s3 s4 s14 wr => s14 = iv 0 ∧ s3 = iv 0 ∧ s4 = .int .u64 0 ∧ Only Nix w wr) (fun _ _ _ _ => 0)
    case atStart => exact ⟨rfl, rfl, rfl, Only.refl _ _⟩
    case round =>
      obtain ⟨rfl, rfl, rfl, hO⟩ := hrel
      have HO := Lib.hid hO
      clear hO
      have hlti : (0 : Int) < (n : Int) := by omega
      have HF := Lib.hid (fixed_any wr 0 (by decide))
      go_wp2_with fail
      refine (HF.out).mono ?_
      rintro e w1 ⟨⟨A1, c1, rfl, hI1⟩, o1⟩
      have a1 := (Only.refl Nix w1).alloc (.cells #[iv 4, iv 0, .slice A1 0 c1] 24)
      have HO1 := Lib.hid ((HO.out.trans o1).trans a1)
      have HRe := Lib.hid (residual_any 4 0 A1 0 c1 (fx 0) A n c xs (hI1.nix a1) (HX.out.nix HO1.out) hn)
      clear hI1 o1 HF a1
      go_wp2_with fail
      refine (HRe.out).mono ?_
      rintro e w2 ⟨⟨A2, c2, rfl, hI2⟩, o2⟩
      rw [HE.out, HV0.out]
      have HO2 := Lib.hid (HO1.out.trans o2)
      clear HRe hI2 o2
      go_wp2
      go_ret
      exact ⟨by rw [HV.out] <;> rfl, HO2.out⟩
theorem best_any {w : World} (A : Option Addr) (n c : Nat) (xs : List Int) (hxs : ISrc w (.slice A n c) xs) (hn : n ≤ 1000) :
    Calls Tryz.prog 89 #[.slice A n c] w fun e w' => e = .returned (iv (bestV xs : Nat)) ∧ Only Nix w w' := by
  by_cases h5 : 5 < n
  · exact best_big A n c 5 xs hxs hn h5 (by omega)
  · exact best_small A n c n xs hxs hn (by omega) (by omega)
end Go.Proofs.YteklfkpeaadinaaGreatDoor.K
namespace Go.Proofs.YteklfkpeaadinaaGreatDoor.K
open Go.RowKit

set_option maxHeartbeats 1000000 in
theorem plain_any {w : World} (P S : Int) (A : Option Addr) (n c : Nat) :
    Calls Tryz.prog 32 #[linV P S (.slice A n c)] w fun e w' => e = .returned (linV P S (.slice A n c)) ∧ Only Nix w w' := by
  go_enter Tryz.func32, Tryz.ntmps32
  go_wp2
  refine bodyPost_ret (v := linV P S (.slice A n c)) ?_ rfl ⟨rfl, ?_⟩
  · simp [results, Tryz.f32, go_sem]
  · repeat' first | exact Only.refl _ _ | refine Only.alloc ?_ _ | refine Only.setCell ?_ (.inr (by simp)) _
end Go.Proofs.YteklfkpeaadinaaGreatDoor.K
