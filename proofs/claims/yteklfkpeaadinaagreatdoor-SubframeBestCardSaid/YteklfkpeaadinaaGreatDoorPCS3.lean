/-
  Package subframe: areSamples, isConstant, union, divided; slices.Clone of numbers.
-/
import Derived.Test.YteklfkpeaadinaaGreatDoorPCS2
import Derived.Test.YteklfkpeaadinaaGreatDoorPCG22
namespace Go.Proofs.YteklfkpeaadinaaGreatDoor.S
open Go.RowKit
open K (linV)
/-- are all numbers samples of a depth -/
def fitsD (d : Nat) (xs : List Int) : Prop := ∀ x ∈ xs, -((2 : Int) ^ (d - 1)) ≤ x ∧ x < (2 : Int) ^ (d - 1)
instance (d : Nat) (xs : List Int) : Decidable (fitsD d xs) := by unfold fitsD; exact inferInstance
def AllP (w : World) (p : Int → Prop) (xs : List Int) (s : Value) (wr : World) : Prop := ∃ j : Nat, j ≤ xs.length ∧ s = iv j ∧ (∀ x ∈ xs.take j, p x) ∧ w = wr
set_option maxHeartbeats 2000000 in
theorem areSamples_any {w : World} (d : Nat) (hd : 1 ≤ d) (hd2 : d ≤ 33) (A : Option Addr) (n c : Nat) (xs : List Int) (hx : ISrc w (.slice A n c) xs) :
    Calls Tryz.prog 54 #[iv d, .slice A n c] w fun e w' => e = .returned (.bool (decide (fitsD d xs))) ∧ w = w' := by
  have hl := hx.len
  have hsm := hx.small
  rw [← hl] at hsm
  obtain ⟨q, hq⟩ : ∃ q, d - 1 = q := ⟨_, rfl⟩
  have hqi : (d : Int) - 1 = (q : Int) := by omega
  have hK1 := pow_le_of (show 0 ≤ q by omega)
  have hK2 := pow_le_of (show q ≤ 32 by omega)
  have hpw : (2 : Int) ^ q = ((2 ^ q : Nat) : Int) := pow_cast q
  have HD : Hid (∀ x, (-((2 : Int) ^ (d - 1)) ≤ x ∧ x < (2 : Int) ^ (d - 1)) ↔ -((2 ^ q : Nat) : Int) ≤ x ∧ x < ((2 ^ q : Nat) : Int)) := Lib.hid (fun x => by rw [hq, hpw])
  generalize (2 : Nat) ^ q = K at *
  have hK3 : 1 ≤ K := hK1
  have hK4 : K ≤ 4294967296 := hK2
  have HX := Lib.hid hx
  have Hl := Lib.hid hl
  clear hx hl hK1 hK2 hq
  go_enter Tryz.func54, Tryz.ntmps54
  go_wp2
  go_loopw [13] (fun s wr => AllP w (fun x => -(K : Int) ≤ x ∧ x < (K : Int)) xs s wr) (fun s _ => n - (intOf s).toNat)
  case atStart => exact ⟨0, Nat.zero_le _, rfl, by simp, rfl⟩
  case round =>
    obtain ⟨j, hj, rfl, hal, rfl⟩ := hrel
    rw [← Hl.out] at hj
    have HAl := Lib.hid hal
    clear hal
    by_cases hlt : j < n
    · have hltx : j < xs.length := by rw [← Hl.out]; exact hlt
      obtain ⟨ad, rfl, hxj⟩ := HX.out.at_ hltx
      have hft := HX.out.fits _ (List.getElem_mem hltx)
      have hlt2 : (j : Int) < (n : Int) := by omega
      have HM := Lib.hid (List.getElem_mem hltx)
      have HE := Lib.hid (List.take_succ_eq_append_getElem hltx)
      generalize xs[j] = x at *
      clear hltx
      by_cases k1 : x < -(K : Int)
      · have hE : decide (fitsD d xs) = false := decide_eq_false (fun h => by have := (HD.out x).1 (h x HM.out); omega)
        have HF := Lib.hid hE
        clear hE
        go_wp2
        go_ret
        exact ⟨by rw [HF.out] <;> rfl, rfl⟩
      · by_cases k2 : (K : Int) ≤ x
        · have hE : decide (fitsD d xs) = false := decide_eq_false (fun h => by have := (HD.out x).1 (h x HM.out); omega)
          have HF := Lib.hid hE
          clear hE
          go_wp2
          go_ret
          exact ⟨by rw [HF.out] <;> rfl, rfl⟩
        · go_wp2
          go_roundw
          case rel => exact ⟨j + 1, by rw [← Hl.out]; omega, by go_num, fun y hy => by
                        rw [HE.out] at hy
                        rcases List.mem_append.1 hy with hy | hy
                        · exact HAl.out y hy
                        · simp at hy; subst hy; omega, rfl⟩
          case measure => simp [intOf]; omega
    · have hE : decide (fitsD d xs) = true := decide_eq_true (fun x hx => (HD.out x).2 (HAl.out x (by rw [List.take_of_length_le (by rw [← Hl.out]; omega)]; exact hx)))
      have HF := Lib.hid hE
      clear hE
      go_wp2
      go_ret
      exact ⟨by rw [HF.out] <;> rfl, rfl⟩
/-- are all numbers the same -/
def sameA (xs : List Int) : Prop := ∀ x ∈ xs, x = xs.getD 0 0
instance (xs : List Int) : Decidable (sameA xs) := by unfold sameA; exact inferInstance
set_option maxHeartbeats 2000000 in
theorem isConstant_any {w : World} (A : Option Addr) (n c : Nat) (xs : List Int) (hx : ISrc w (.slice A n c) xs) (hn : 0 < n) :
    Calls Tryz.prog 56 #[.slice A n c] w fun e w' => e = .returned (.bool (decide (sameA xs))) ∧ w = w' := by
  have hl := hx.len
  have hsm := hx.small
  rw [← hl] at hsm
  have h0x : 0 < xs.length := by omega
  obtain ⟨ad0, hA0, hx0⟩ := hx.at_ h0x
  subst hA0
  rw [Addr.add_zero'] at hx0
  have HG : Hid (xs[0] = xs.getD 0 0) := Lib.hid (K.getD_of h0x).symm
  have hft0 := hx.fits _ (List.getElem_mem h0x)
  have h0i : (0 : Int) < (n : Int) := by omega
  generalize xs[0] = x0 at *
  have HX := Lib.hid hx
  have Hl := Lib.hid hl
  clear hx hl h0x
  go_enter Tryz.func56, Tryz.ntmps56
  go_wp2
  go_loopw [7] (fun s wr => AllP w (fun x => x = x0) xs s wr) (fun s _ => n - (intOf s).toNat)
  case atStart => exact ⟨0, Nat.zero_le _, rfl, by simp, rfl⟩
  case round =>
    obtain ⟨j, hj, rfl, hal, rfl⟩ := hrel
    rw [← Hl.out] at hj
    have HAl := Lib.hid hal
    clear hal
    by_cases hlt : j < n
    · have hltx : j < xs.length := by rw [← Hl.out]; exact hlt
      obtain ⟨ad, hA, hxj⟩ := HX.out.at_ hltx
      injection hA with hA
      subst hA
      have hft := HX.out.fits _ (List.getElem_mem hltx)
      have hlt2 : (j : Int) < (n : Int) := by omega
      have HM := Lib.hid (List.getElem_mem hltx)
      have HE := Lib.hid (List.take_succ_eq_append_getElem hltx)
      generalize xs[j] = x at *
      clear hltx
      by_cases k1 : x = x0
      · subst k1
        go_wp2
        go_roundw
        case rel => exact ⟨j + 1, by rw [← Hl.out]; omega, by go_num, fun y hy => by
                      rw [HE.out] at hy
                      rcases List.mem_append.1 hy with hy | hy
                      · exact HAl.out y hy
                      · simpa using hy, rfl⟩
        case measure => simp [intOf]; omega
      · have hE : decide (sameA xs) = false := decide_eq_false (fun h => k1 ((h x HM.out).trans HG.out.symm))
        have HF := Lib.hid hE
        have k2 : (x != x0) = true := by simpa using k1
        clear hE
        go_wp2
        go_ret
        exact ⟨by rw [HF.out] <;> rfl, rfl⟩
    · have hE : decide (sameA xs) = true := decide_eq_true (fun x hx => (HAl.out x (by rw [List.take_of_length_le (by rw [← Hl.out]; omega)]; exact hx)).trans HG.out)
      have HF := Lib.hid hE
      clear hE
      go_wp2
      go_ret
      exact ⟨by rw [HF.out] <;> rfl, rfl⟩
/-- the bits that any number has -/
def uni (xs : List Int) : Int := xs.foldl (fun a x => bits .or .i64 a x) 0
theorem uni_snoc (xs : List Int) (x : Int) : uni (xs ++ [x]) = bits .or .i64 (uni xs) x := by unfold uni; rw [List.foldl_append]; rfl
def UniP (w : World) (xs : List Int) (s3 s8 : Value) (wr : World) : Prop := ∃ j : Nat, j ≤ xs.length ∧ s8 = iv j ∧ s3 = iv (uni (xs.take j)) ∧ w = wr
set_option maxHeartbeats 2000000 in
theorem union_any {w : World} (A : Option Addr) (n c : Nat) (xs : List Int) (hx : ISrc w (.slice A n c) xs) :
    Calls Tryz.prog 65 #[.slice A n c] w fun e w' => e = .returned (iv (uni xs)) ∧ w = w' := by
  have hl := hx.len
  have hsm := hx.small
  rw [← hl] at hsm
  have HX := Lib.hid hx
  have Hl := Lib.hid hl
  clear hx hl
  go_enter Tryz.func65, Tryz.ntmps65
  go_wp2
  go_loopw [3, 8] (fun s3 s8 wr => UniP w xs s3 s8 wr) (fun _ s8 _ => n - (intOf s8).toNat)
  case atStart => exact ⟨0, Nat.zero_le _, rfl, by simp [uni], rfl⟩
  case round =>
    obtain ⟨j, hj, rfl, rfl, rfl⟩ := hrel
    rw [← Hl.out] at hj
    by_cases hlt : j < n
    · have hltx : j < xs.length := by rw [← Hl.out]; exact hlt
      obtain ⟨ad, rfl, hxj⟩ := HX.out.at_ hltx
      have hlt2 : (j : Int) < (n : Int) := by omega
      have HE : Hid (uni (xs.take (j + 1)) = bits .or .i64 (uni (xs.take j)) xs[j]) := Lib.hid (by rw [List.take_succ_eq_append_getElem hltx, uni_snoc])
      generalize uni (xs.take j) = U at *
      generalize xs[j] = x at *
      clear hltx
      go_wp2
      go_roundw
      case rel => exact ⟨j + 1, by rw [← Hl.out]; omega, by go_num, by rw [HE.out], rfl⟩
      case measure => simp [intOf]; omega
    · have HF : Hid (uni (xs.take j) = uni xs) := Lib.hid (by rw [List.take_of_length_le (by rw [← Hl.out]; omega)])
      rw [HF.out]
      go_wp2
      go_ret
      exact ⟨rfl, rfl⟩
/-- a row of numbers of the call's own -/
structure RowI (w : World) (base : Nat) (v : Value) (xs : List Int) : Prop where
  own : w.ownsRow base 3 1 v xs.length (xs.map iv)
  fits : ∀ x ∈ xs, -9223372036854775808 ≤ x ∧ x ≤ 9223372036854775807
theorem RowI.form {w : World} {base : Nat} {v : Value} {xs : List Int} (h : RowI w base v xs) : ∃ A c, v = .slice A xs.length c := owns_slice h.own
theorem RowI.isrc {w : World} {base : Nat} {v : Value} {xs : List Int} (h : RowI w base v xs) (hn : xs.length ≤ 100000000) : ISrc w v xs := by
  rcases h.own.2 with ⟨rfl, h0⟩ | ⟨g, cap, cur, rfl, hb, hg, hc, _⟩
  · obtain rfl := List.eq_nil_of_length_eq_zero h0
    exact K.isrc_nil w
  · exact K.isrc_row h.own rfl h.fits hn
set_option maxHeartbeats 1000000 in
theorem clone_ints {w : World} (A : Option Addr) (n c : Nat) (xs : List Int) (hx : ISrc w (.slice A n c) xs) (hn : n ≤ 100000) :
    Calls Tryz.prog 93 #[.slice A n c] w fun e w' => ∃ v, e = .returned v ∧ RowI w' w.heap.size v xs ∧ Only Nix w w' := by
  have hl := hx.len
  have hft := hx.fits
  have HX := Lib.hid hx
  obtain rfl | ⟨ad, rfl⟩ : A = none ∨ ∃ ad, A = some ad := by cases A with | none => exact .inl rfl | some a => exact .inr ⟨a, rfl⟩
  · have hq := fun (u : World) => Lib.run_eql_slice_nil (P := Tryz.prog) u 22 3 none n c 0 0 Tryz.underlying22
    have hnil : xs = [] := by
      cases xs with
      | nil => rfl
      | cons x r =>
        obtain ⟨_, e, _⟩ := hx.at_ (k := 0) (by simp)
        cases e
    subst hnil
    clear hl hx
    go_enter Tryz.func93, Tryz.ntmps93
    go_wp2
    go_ret
    exact ⟨_, rfl, ⟨World.ownsRow_nil _ _ _ _, hft⟩, Only.refl _ _⟩
  · have hq := fun (u : World) => Lib.run_eql_slice_nil (P := Tryz.prog) u 22 3 (some ad) n c 0 0 Tryz.underlying22
    have Hl := Lib.hid hl
    clear hl hx
    go_enter Tryz.func93, Tryz.ntmps93
    go_wp2_with (at_builtin; refine K.wpList_append_ints rfl (.tmp 5) (.tmp 6) rfl w.heap.size (.slice (some ⟨w.heap.size, 0, none⟩) 0 0) 0 [] rfl ?hown (some ad) n c xs rfl ?hsrc ?h63 ?hbase ?rest)
    case hown => exact World.ownsRow_lit w #[] 0 (Nat.le_refl _) (by unfold maxLen; omega) rfl
    case hsrc => exact HX.out.nix ((Only.refl Nix w).alloc _)
    case h63 => omega
    case hbase => simp
    case rest =>
      intro v' w' hown hgr _
      go_wp2
      go_ret
      refine ⟨_, rfl, ⟨?_, hft⟩, ?_⟩
      · rw [← Hl.out]
        simpa using hown
      · exact ((Only.refl Nix w).alloc _).grown hgr (fun k e => .inr (by simp [Value.ownBlock] at e; omega))
end Go.Proofs.YteklfkpeaadinaaGreatDoor.S
