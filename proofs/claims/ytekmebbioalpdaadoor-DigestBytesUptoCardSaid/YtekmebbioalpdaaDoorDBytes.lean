/-
  Bytes, walked.
-/
import Derived.Test.YtekmebbioalpdaaDoorDSam
namespace Go.Proofs.YtekmebbioalpdaaDoor
open Go.RowKit

/-- a number as 64 bits -/
def u64 (x : Int) : Nat := (x % 18446744073709551616).toNat
theorem u64_lt (x : Int) : u64 x < 18446744073709551616 := by unfold u64; omega
theorem u64_cast (x : Int) : x % 18446744073709551616 = (u64 x : Int) := by unfold u64; omega
theorem u64_wrap (x : Int) : IntKind.u64.wrap x = (u64 x : Int) := by rw [IntKind.wrap_u64]; exact u64_cast x
/-- one sample of the first k channels -/
def frB (size : Nat) (xss : List (List Int)) (i k : Nat) : List Nat := ((xss.take k).map (fun xs => lf (u64 (xs.getD i 0)) size)).flatten
/-- the first n samples of all channels -/
def byTo (size : Nat) (xss : List (List Int)) : Nat → List Nat
  | 0 => []
  | n + 1 => byTo size xss n ++ frB size xss n xss.length
theorem frB_len (size : Nat) (xss : List (List Int)) (i : Nat) : ∀ k, k ≤ xss.length → (frB size xss i k).length = k * size
  | 0, _ => by simp [frB]
  | k + 1, h => by
    have := frB_len size xss i k (by omega)
    unfold frB at this ⊢
    rw [List.take_succ_eq_append_getElem (by omega), List.map_append, List.flatten_append, List.length_append, this]
    simp [lf_len, Nat.succ_mul]
theorem frB_step (size : Nat) (xss : List (List Int)) (i k : Nat) (h : k < xss.length) : frB size xss i (k + 1) = frB size xss i k ++ lf (u64 (xss[k].getD i 0)) size := by
  unfold frB
  rw [List.take_succ_eq_append_getElem h, List.map_append, List.flatten_append]
  simp
theorem byTo_len (size : Nat) (xss : List (List Int)) : ∀ n, (byTo size xss n).length = n * (xss.length * size)
  | 0 => by simp [byTo]
  | n + 1 => by rw [byTo, List.length_append, byTo_len size xss n, frB_len _ _ _ _ (Nat.le_refl _), Nat.succ_mul]
theorem by_bound (size : Nat) (xss : List (List Int)) (i k n : Nat) (hi : i < n) (hk : k ≤ xss.length) : (byTo size xss i ++ frB size xss i k).length ≤ (byTo size xss n).length := by
  rw [List.length_append, byTo_len, byTo_len, frB_len _ _ _ _ hk]
  have h1 : (i + 1) * (xss.length * size) ≤ n * (xss.length * size) := Nat.mul_le_mul_right _ hi
  have h2 : k * size ≤ xss.length * size := Nat.mul_le_mul_right _ hk
  rw [Nat.succ_mul] at h1
  omega

theorem len_app2 (a b : List Nat) : (a ++ b).length = a.length + b.length := List.length_append
set_option maxHeartbeats 1000000 in
theorem bytes_arg {w : World} (d : Int) (A : Option Addr) (m c : Nat) (xss : List (List Int)) (hx : Rws w (.slice A m c) xss) (h : ¬ (okD d ∧ okC xss)) :
    Calls Tryd.prog 15 #[iv d, .slice A m c] w fun e w' => e = .returned (.tuple #[.slice none 0 0, iv 1]) ∧ w = w' := by
  obtain rfl := hx.len
  have HM : Hid (Calls Tryd.prog 25 #[iv d, .slice A xss.length c] w fun e w' => e = .returned (.bool false) ∧ w = w') := by
    refine Lib.hid ?_
    by_cases hq : ¬ okD d ∨ xss.length < 1 ∨ 8 < xss.length
    · exact mayBe_no d A _ c hq
    · have hd : okD d := Classical.byContradiction fun hh => hq (.inl hh)
      exact mayBe_loop d hd A c xss hx (by omega) (by omega) false ⟨(fun e => by cases e), fun hc => absurd ⟨hd, hc⟩ h⟩
  clear hx h
  go_enter Tryd.func15, Tryd.ntmps15
  go_wp2_with fail
  refine (HM.out).mono ?_
  rintro e w1 ⟨rfl, rfl⟩
  go_wp2
  go_ret2
  exact ⟨rfl, rfl⟩

def RanP (w : World) (k : Nat) (xss : List (List Int)) (s19 : Value) (wr : World) : Prop :=
  ∃ j : Nat, j ≤ xss.length ∧ s19 = iv j ∧ (∀ i, (hi : i < xss.length) → i < j → inD k xss[i]) ∧ w = wr
def OutP (w2 : World) (base size : Nat) (xss : List (List Int)) (n0 : Nat) (s9 s45 : Value) (wr : World) : Prop :=
  ∃ i : Nat, i ≤ n0 ∧ s45 = iv i ∧ wr.ownsRow base 5 1 s9 (byTo size xss i).length ((byTo size xss i).map byt) ∧ Only (From base) w2 wr
def InP (w2 : World) (base size : Nat) (xss : List (List Int)) (i : Nat) (s9 s50 : Value) (wr : World) : Prop :=
  ∃ k : Nat, k ≤ xss.length ∧ s50 = iv k ∧ wr.ownsRow base 5 1 s9 (byTo size xss i ++ frB size xss i k).length ((byTo size xss i ++ frB size xss i k).map byt) ∧ Only (From base) w2 wr

set_option maxHeartbeats 2000000 in
theorem bytes_range {w : World} (d : Int) (k : Nat) (hk : d = (k : Int) + 1) (A : Option Addr) (m c : Nat) (xss : List (List Int)) (hx : Rws w (.slice A m c) xss) (h : okD d ∧ okC xss) (hbad : ¬ ∀ j, (hj : j < xss.length) → inD k xss[j]) :
    Calls Tryd.prog 15 #[iv d, .slice A m c] w fun e w' => e = .returned (.tuple #[.slice none 0 0, iv 10]) ∧ w = w' := by
  obtain rfl := hx.len
  have HM := Lib.hid (mayBe_loop d h.1 A c xss hx h.2.1 h.2.2.1 true ⟨fun _ => h.2, fun _ => rfl⟩)
  obtain ⟨⟨d4, d32⟩, h1, h8, _⟩ := h
  have HX := Lib.hid hx
  have HB := Lib.hid hbad
  have Hk := Lib.hid hk
  have hk32 : k < 32 := by omega
  clear hx hbad hk
  go_enter Tryd.func15, Tryd.ntmps15
  go_wp2_with fail
  refine (HM.out).mono ?_
  rintro e w1 ⟨rfl, rfl⟩
  go_wp2
  go_loopw [19] (fun s19 wr => RanP w k xss s19 wr) (fun s19 _ => xss.length - (intOf s19).toNat)
  case atStart => exact ⟨0, by omega, rfl, fun i _ h => by omega, rfl⟩
  case round =>
    obtain ⟨j, hj, rfl, hal, rfl⟩ := hrel
    have Hal := Lib.hid hal
    clear hal
    by_cases hlt : j < xss.length
    · obtain ⟨ad, A', c', rfl, hxj, hsj⟩ := HX.out.at_ hlt
      have hlt2 : (j : Int) < (xss.length : Int) := by omega
      by_cases hin : inD k xss[j]
      · have HW := Lib.hid (within_any d k Hk.out hk32 A' c' xss[j] hsj true ⟨fun _ => hin, fun _ => rfl⟩)
        have Hin := Lib.hid hin
        clear hin hsj
        generalize xss[j].length = lj at *
        go_wp2_with fail
        refine (HW.out).mono ?_
        rintro e w1 ⟨rfl, rfl⟩
        go_wp2
        go_roundw
        case rel =>
          refine ⟨j + 1, by omega, by go_num, fun i hi hij => ?_, rfl⟩
          by_cases e : i = j
          · subst e; exact Hin.out
          · exact Hal.out i hi (by omega)
        case measure => simp [intOf]; omega
      · have HW := Lib.hid (within_any d k Hk.out hk32 A' c' xss[j] hsj false ⟨(fun e => by cases e), fun h => absurd h hin⟩)
        clear hin hsj
        generalize xss[j].length = lj at *
        go_wp2_with fail
        refine (HW.out).mono ?_
        rintro e w1 ⟨rfl, rfl⟩
        go_wp2
        go_ret2
        exact ⟨rfl, rfl⟩
    · exact absurd (fun i hi => Hal.out i hi (by omega)) HB.out

set_option maxHeartbeats 2000000 in
theorem bytes_yes {w : World} (d : Int) (k : Nat) (hk : d = (k : Int) + 1) (size : Nat) (hsize : (k + 8) / 8 = size) (A : Option Addr) (m c : Nat) (xss : List (List Int)) (hx : Rws w (.slice A m c) xss) (h : okD d ∧ okC xss) (hall : ∀ j, (hj : j < xss.length) → inD k xss[j]) (n0 : Nat) (hn0 : (xss.getD 0 []).length = n0) (hbd : (byTo size xss n0).length ≤ 90000000) :
    Calls Tryd.prog 15 #[iv d, .slice A m c] w fun e w' => ∃ v', e = .returned (.tuple #[v', iv 0]) ∧ w'.ownsRow w.heap.size 5 1 v' (byTo size xss n0).length ((byTo size xss n0).map byt) ∧ Only Nix w w' := by
  obtain rfl := hx.len
  have HM := Lib.hid (mayBe_loop d h.1 A c xss hx h.2.1 h.2.2.1 true ⟨fun _ => h.2, fun _ => rfl⟩)
  obtain ⟨⟨d4, d32⟩, h1, h8, hsame⟩ := h
  have HX := Lib.hid hx
  have HA := Lib.hid hall
  have Hk := Lib.hid hk
  have hk32 : k < 32 := by omega
  have hd7 : (d + 7) / 8 = (size : Int) := by rw [hk, ← hsize]; omega
  have hsz4 : size ≤ 4 := by omega
  have hsz1 : 1 ≤ size := by omega
  have Hs0 : Hid (∀ j, (hj : j < xss.length) → xss[j].length = n0) := Lib.hid (fun j hj => by rw [hsame j hj, hn0])
  have Hbd := Lib.hid hbd
  have hbl : Hid ((byTo size xss n0).length = n0 * (xss.length * size)) := Lib.hid (byTo_len _ _ _)
  clear hx hall hk hsame hsize hn0 hbd
  obtain ⟨ad0, A0, c0, rfl, hx0, hs0⟩ := HX.out.at_ (k := 0) (by omega)
  rw [Addr.add_zero', Hs0.out] at hx0
  go_enter Tryd.func15, Tryd.ntmps15
  go_wp2_with fail
  refine (HM.out).mono ?_
  rintro e w1 ⟨rfl, rfl⟩
  go_wp2
  go_loopw [19] (fun s19 wr => RanP w k xss s19 wr) (fun s19 _ => xss.length - (intOf s19).toNat)
  case atStart => exact ⟨0, by omega, rfl, fun i _ h => by omega, rfl⟩
  case round =>
    obtain ⟨j, hj, rfl, hal, rfl⟩ := hrel
    clear hal
    by_cases hlt : j < xss.length
    · obtain ⟨ad, A', c', e1, hxj, hsj⟩ := HX.out.at_ hlt
      injection e1 with e1
      subst e1
      have hlt2 : (j : Int) < (xss.length : Int) := by omega
      have HW := Lib.hid (within_any d k Hk.out hk32 A' c' xss[j] hsj true ⟨fun _ => HA.out j hlt, fun _ => rfl⟩)
      clear hsj
      generalize xss[j].length = lj at *
      go_wp2_with fail
      refine (HW.out).mono ?_
      rintro e w1 ⟨rfl, rfl⟩
      go_wp2
      go_roundw
      case rel => exact ⟨j + 1, by omega, by go_num, fun i hi _ => HA.out i hi, rfl⟩
      case measure => simp [intOf]; omega
    · have hlt2 : decide (j < xss.length) = false := by simp; omega
      have hns := hs0.small
      rw [Hs0.out] at hns
      clear hs0
      obtain ⟨q1, hq1⟩ : ∃ q1, Hid (size * xss.length = q1) := ⟨_, Lib.hid rfl⟩
      have hm1 : (size : Int) * (xss.length : Int) = (q1 : Int) := by rw [← hq1.out, Int.natCast_mul]
      have hq1b : q1 ≤ 32 := by rw [← hq1.out]; exact Nat.mul_le_mul hsz4 h8
      obtain ⟨q2, hq2⟩ : ∃ q2, Hid (q1 * n0 = q2) := ⟨_, Lib.hid rfl⟩
      have hm2 : (q1 : Int) * (n0 : Int) = (q2 : Int) := by rw [← hq2.out, Int.natCast_mul]
      have hq2b : q2 ≤ 90000000 := by
        rw [← hq2.out, ← hq1.out, Nat.mul_comm, Nat.mul_comm size, ← hbl.out]
        exact Hbd.out
      obtain ⟨CS, hCS⟩ : ∃ CS, Hid ((List.replicate q2 (byt 0)).toArray = CS) := ⟨_, Lib.hid rfl⟩
      have hmk : ∀ u, (Instr.makeSlice 22 (.int .i64 0) (.int .i64 (q2 : Int))).run Tryd.prog u = .ok (.slice (some ⟨u.heap.size, 0, none⟩) 0 q2) (u.alloc (.cells CS 5)) := fun u => by
        rw [← hCS.out]; exact run_make_lc 0 q2 (by omega) (by omega) u
      have o1 := (Only.refl Nix w).alloc (.cells CS 5)
      have hx1 := cell_keep o1 hx0
      have hO1 : (w.alloc (.cells CS 5)).ownsRow w.heap.size 5 1 (.slice (some ⟨w.heap.size, 0, none⟩) 0 q2) 0 ([].map byt) :=
        ⟨rfl, .inr ⟨w.heap.size, q2, _, rfl, Nat.le_refl _, Box.new _ _ _, by omega, by unfold maxLen; omega, by rw [← hCS.out]; simp, rfl⟩⟩
      have HO1 := Lib.hid hO1
      clear hO1
      go_wp2
      rw [hd7]
      clear hmk hd7
      generalize w.alloc (.cells CS 5) = w2 at *
      go_loopw [9, 45] (fun s9 s45 wr => OutP w2 w.heap.size size xss n0 s9 s45 wr) (fun _ s45 _ => n0 - (intOf s45).toNat)
      case atStart => exact ⟨0, by omega, rfl, HO1.out, Only.refl _ _⟩
      case round =>
        obtain ⟨i, hi, rfl, hO, ho⟩ := hrel
        obtain ⟨A5, c5, rfl⟩ := owns_slice hO
        generalize hwo : wr = wo at *
        by_cases hlti : i < n0
        · have HO := Lib.hid hO
          have hlti2 : (i : Int) < (n0 : Int) := by omega
          clear hO
          go_wp2
          go_loopw [9, 50] (fun s9 s50 wr => InP w2 w.heap.size size xss i s9 s50 wr) (fun _ s50 _ => xss.length - (intOf s50).toNat)
          case atStart =>
            refine ⟨0, by omega, rfl, ?_, ho⟩
            simpa [frB] using HO.out
          case round =>
            obtain ⟨k2, hk2, rfl, hO2, ho2⟩ := hrel
            obtain ⟨A6, c6, rfl⟩ := owns_slice hO2
            have o2n : Only Nix w wr := o1.from ho2 (Nat.le_refl _)
            by_cases hltk : k2 < xss.length
            · obtain ⟨ad, A', c', e1, hxj, hsj⟩ := (HX.out.nix o2n).at_ hltk
              injection e1 with e1
              subst e1
              rw [Hs0.out] at hxj
              obtain ⟨ad2, e2, hxi⟩ := hsj.at_ (k := i) (by rw [Hs0.out]; exact hlti)
              subst e2
              have hft := hsj.fits _ (List.getElem_mem (by rw [Hs0.out]; exact hlti : i < xss[k2].length))
              have hgd : xss[k2].getD i 0 = xss[k2][i]'(by rw [Hs0.out]; exact hlti) := by rw [List.getD_eq_getElem?_getD, List.getElem?_eq_getElem]; rfl
              have Hst := Lib.hid (frB_step size xss i k2 hltk)
              rw [hgd] at Hst
              generalize xss[k2][i]'(by rw [Hs0.out]; exact hlti) = x at *
              have hbn := by_bound size xss i k2 n0 hlti hk2
              have hsz2 := o2n.size
              have HLs := Lib.hid (least_at w.heap.size _ _ (byTo size xss i ++ frB size xss i k2) hO2 (u64 x) size (IntKind.u64.wrap x) (size : Int) (u64_wrap x) rfl (u64_lt x) (by omega) (Nat.le_trans hbn Hbd.out) hsz2)
              rw [List.append_assoc, ← Hst.out] at HLs
              have hll : Hid ((byTo size xss i ++ frB size xss i k2).length + size = (byTo size xss i ++ frB size xss i (k2 + 1)).length) := Lib.hid (by rw [Hst.out, ← List.append_assoc, len_app2 _ (lf (u64 x) size), lf_len])
              rw [hll.out] at HLs
              clear hsj hgd hO2 hbn
              generalize (byTo size xss i ++ frB size xss i k2).length = n5 at *
              have hltk2 : (k2 : Int) < (xss.length : Int) := by omega
              go_wp2_with fail
              refine (HLs.out).mono ?_
              rintro e w6 ⟨v6, rfl, hO6, o6⟩
              have HO6 := Lib.hid hO6
              clear hO6
              go_wp2
              go_roundw
              case rel => exact ⟨k2 + 1, by omega, by go_num, HO6.out, ho2.trans o6⟩
              case measure => simp [intOf]; omega
            · obtain rfl : k2 = xss.length := by omega
              have HO7 : Hid (wr.ownsRow w.heap.size 5 1 (.slice A6 (byTo size xss (i + 1)).length c6) (byTo size xss (i + 1)).length ((byTo size xss (i + 1)).map byt)) := Lib.hid hO2
              have hle : Hid ((byTo size xss i ++ frB size xss i xss.length).length = (byTo size xss (i + 1)).length) := Lib.hid rfl
              have hd0 : decide (xss.length < xss.length) = false := by simp
              rw [hle.out]
              clear hO2
              obtain ⟨n7, hn7⟩ : ∃ n7, Hid ((byTo size xss (i + 1)).length = n7) := ⟨_, Lib.hid rfl⟩
              rw [hn7.out] at HO7 ⊢
              go_wp2
              refine ⟨⟨i + 1, by omega, by go_num, ?_, ho2⟩, by simp [intOf]; omega⟩
              rw [hn7.out]
              exact HO7.out
        · obtain rfl : i = n0 := by omega
          have hd0 : decide (i < i) = false := by simp
          obtain ⟨n7, hn7⟩ : ∃ n7, Hid ((byTo size xss i).length = n7) := ⟨_, Lib.hid rfl⟩
          have HO7 := Lib.hid hO
          clear hO
          rw [hn7.out] at HO7 ⊢
          go_wp2
          go_ret2
          refine ⟨_, rfl, ?_, o1.from ho (Nat.le_refl _)⟩
          rw [hn7.out]
          exact HO7.out
end Go.Proofs.YtekmebbioalpdaaDoor
