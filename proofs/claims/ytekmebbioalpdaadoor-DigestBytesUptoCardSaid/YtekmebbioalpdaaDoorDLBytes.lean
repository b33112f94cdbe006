/-
  DigestBytes, walked, where no channel is longer than 1048576 samples.
-/
import Derived.Test.YtekmebbioalpdaaDoorDRefBytes
import Derived.Test.YtekmebbioalpdaaDoorDAwake
import Derived.Deep.Cut
import Derived.Deep.CutRange
namespace Go.Proofs.YtekmebbioalpdaaDoor
open Go.RowKit

/-- what Bytes answers -/
def BAns (d : Int) (xss : List (List Int)) (v5 : Value) (z : Int) (base : Nat) (u : World) : Prop :=
  (¬ (okD d ∧ okC xss) ∧ v5 = .slice none 0 0 ∧ z = 1) ∨
  ((okD d ∧ okC xss) ∧ (¬ allD (d - 1).toNat xss) ∧ v5 = .slice none 0 0 ∧ z = 10) ∨
  ((okD d ∧ okC xss) ∧ allD (d - 1).toNat xss ∧ z = 0 ∧ u.ownsRow base 5 1 v5 (byTo (((d - 1).toNat + 8) / 8) xss (xss.getD 0 []).length).length ((byTo (((d - 1).toNat + 8) / 8) xss (xss.getD 0 []).length).map byt))
theorem bytes_all {w : World} (d : Int) (A : Option Addr) (m c : Nat) (xss : List (List Int)) (hx : Rws w (.slice A m c) xss) (hb : (xss.getD 0 []).length ≤ 1048576) :
    Calls Tryd.prog 15 #[iv d, .slice A m c] w fun e w' => ∃ v5 z, e = .returned (.tuple #[v5, .int .i64 z]) ∧ BAns d xss v5 z w.heap.size w' ∧ Only Nix w w' := by
  by_cases h : okD d ∧ okC xss
  · have hk : d = (((d - 1).toNat : Nat) : Int) + 1 := by have := h.1.1; omega
    by_cases hall : allD (d - 1).toNat xss
    · have hbd : (byTo (((d - 1).toNat + 8) / 8) xss (xss.getD 0 []).length).length ≤ 90000000 := by
        rw [byTo_len]
        have h32 := h.1.2
        exact Nat.le_trans (Nat.mul_le_mul hb (Nat.mul_le_mul h.2.2.1 (by omega : ((d - 1).toNat + 8) / 8 ≤ 4))) (by decide)
      refine (bytes_yes d _ hk _ rfl A m c xss hx h hall _ rfl hbd).mono ?_
      rintro e w' ⟨v', rfl, hO, ho⟩
      exact ⟨v', 0, rfl, .inr (.inr ⟨h, hall, rfl, hO⟩), ho⟩
    · refine (bytes_range d _ hk A m c xss hx h hall).mono ?_
      rintro e w' ⟨rfl, rfl⟩
      exact ⟨_, 10, rfl, .inr (.inl ⟨h, hall, rfl, rfl⟩), Only.refl _ _⟩
  · refine (bytes_arg d A m c xss hx h).mono ?_
    rintro e w' ⟨rfl, rfl⟩
    exact ⟨_, 1, rfl, .inl ⟨h, rfl, rfl⟩, Only.refl _ _⟩
theorem wr0 {d : Int} {m : Nat} (hd : okD d) (q3 : ¬ m < 1) (q4 : ¬ 8 < m) (h : ¬ okD d ∨ m < 1 ∨ 8 < m) : False := by
  rcases h with h | h | h
  · exact h hd
  · exact q3 h
  · exact q4 h
theorem wr1 (a b c e : Prop) (he : ¬ e) : (a ∨ b ∨ c) ↔ (a ∨ b ∨ c ∨ e) := by
  constructor
  · rintro (h | h | h)
    · exact .inl h
    · exact .inr (.inl h)
    · exact .inr (.inr (.inl h))
  · rintro (h | h | h | h)
    · exact .inl h
    · exact .inr (.inl h)
    · exact .inr (.inr h)
    · exact absurd h he
/-- is it wrong, of the first i channels -/
def WrP (w1 : World) (d : Int) (xss : List (List Int)) (s7 s8 : Value) (wr : World) : Prop :=
  ∃ (i : Nat) (b : Bool), i ≤ xss.length ∧ s8 = iv i ∧ s7 = .bool b ∧ (b = true ↔ ¬ okD d ∨ xss.length < 1 ∨ 8 < xss.length ∨ ∃ j, ∃ hj : j < xss.length, j < i ∧ xss[j].length ≠ (xss.getD 0 []).length) ∧ (∀ j, (hj : j < xss.length) → j < i → xss[j].length ≤ 40) ∧ Only Nix w1 wr

set_option maxRecDepth 100000 in
set_option maxHeartbeats 4000000 in
theorem digestBytes_walk (d : Int) (A : Option Addr) (m c : Nat) (xss : List (List Int)) (w : World) (hL : Laid w) (hx : Rws w (.slice A m c) xss) (hb : (xss.getD 0 []).length ≤ 1048576) (hd : -9223372036854775808 ≤ d ∧ d ≤ 9223372036854775807) :
    Calls Tryd.prog 5 #[iv d, .slice A m c] w fun e w' => e = .returned (.bool true) ∧ Only Nix w w' := by
  have HL : Hid (∀ u, Only Nix w u → Laid u) := fun u o => hL.nix o
  have hsm := hx.small
  obtain rfl := hx.len
  clear hL
  by_cases h10 : xss.length ≤ 10
  · have g10 : ¬ (10 : Int) < (xss.length : Int) := by omega
    have HB := Lib.hid (bytes_all d A _ c xss hx hb)
    have HX := Lib.hid hx
    clear hx hsm hb
    go_enter Tryd.func5, Tryd.ntmps5
    go_wp2_with fail
    refine (HB.out).mono ?_
    rintro e w1 ⟨v5, z, rfl, hBA, o1⟩
    have HBA := Lib.hid hBA
    clear hBA HB
    go_upto_region 4 with fail
    go_cut [7] from 11 (fun s7 wx => ∃ b : Bool, s7 = .bool b ∧ (b = true ↔ ¬ okD d ∨ xss.length < 1 ∨ 8 < xss.length) ∧ wx = w1)
    case first =>
      by_cases q1 : d < 4
      · go_wp2
        go_meet
        exact ⟨true, rfl, ⟨fun _ => .inl (fun h => by have := h.1; omega), fun _ => rfl⟩, rfl⟩
      · by_cases q2 : 32 < d
        · go_wp2
          go_meet
          exact ⟨true, rfl, ⟨fun _ => .inl (fun h => by have := h.2; omega), fun _ => rfl⟩, rfl⟩
        · by_cases q3 : xss.length < 1
          · have q3' : (xss.length : Int) < 1 := by omega
            go_wp2
            go_meet
            exact ⟨true, rfl, ⟨fun _ => .inr (.inl q3), fun _ => rfl⟩, rfl⟩
          · have q3' : ¬ (xss.length : Int) < 1 := by omega
            have q3'' : ¬ xss.length = 0 := by omega
            by_cases q4 : 8 < xss.length
            · have q4' : 8 < (xss.length : Int) := by omega
              go_wp2
              go_meet
              exact ⟨true, rfl, ⟨fun _ => .inr (.inr q4), fun _ => rfl⟩, rfl⟩
            · have q4' : ¬ 8 < (xss.length : Int) := by omega
              go_wp2
              go_meet
              exact ⟨false, rfl, ⟨fun h => (by cases h), fun h => (wr0 ⟨by omega, by omega⟩ q3 q4 h).elim⟩, rfl⟩
    case rest =>
    obtain ⟨b0, rfl, hb0, rfl⟩ := hcut
    have HB0 := Lib.hid hb0
    clear hb0
    go_wp2
    go_loopw [7, 8] (fun s7 s8 wr => WrP wc d xss s7 s8 wr) (fun _ s8 _ => xss.length - (intOf s8).toNat)
    case atStart =>
      refine ⟨0, b0, by omega, rfl, rfl, ?_, fun _ _ h => by omega, Only.refl _ _⟩
      rw [HB0.out]
      exact wr1 _ _ _ _ (fun h => by obtain ⟨_, _, h, _⟩ := h; omega)
    case round =>
      obtain ⟨i, b, hi, rfl, rfl, hbi, h40, ho⟩ := hrel
      have Hbi := Lib.hid hbi
      have H40 := Lib.hid h40
      have oa := o1.trans ho
      clear hbi h40
      by_cases hlt : i < xss.length
      · obtain ⟨ad, A', c', rfl, hxi, hsi⟩ := (HX.out.nix oa).at_ hlt
        obtain ⟨ad', A0, c0, e0, hx0, hs0⟩ := (HX.out.nix oa).at_ (k := 0) (by omega)
        injection e0 with e0
        subst e0
        rw [Addr.add_zero'] at hx0
        have hsm1 := hsi.small
        have hsm0 := hs0.small
        have hlt2 : (i : Int) < (xss.length : Int) := by omega
        have hpos : (0 : Int) < (xss.length : Int) := by omega
        have Hl0 : Hid (xss[0].length = (xss.getD 0 []).length) := Lib.hid (by rw [List.getD_eq_getElem?_getD, List.getElem?_eq_getElem (by omega)]; rfl)
        clear hsi hs0
        generalize hli : xss[i].length = li at *
        have Hli := Lib.hid hli
        clear hli
        generalize hl0 : xss[0].length = l0 at *
        have Hl0' := Lib.hid hl0
        clear hl0
        by_cases hbig : li ≤ 40
        · have g40 : ¬ (40 : Int) < (li : Int) := by omega
          cases b with
          | true =>
            go_wp2
            go_quiet (fail)
            go_wp2
            go_roundw
            case rel =>
              refine ⟨i + 1, true, by omega, by go_num, rfl, ⟨fun _ => ?_, fun _ => rfl⟩, fun j hj hji => ?_, ho.drewN _⟩
              · rcases (by first | exact Hbi.out.1 rfl | exact Hbi.out.1 trivial : ¬ okD d ∨ xss.length < 1 ∨ 8 < xss.length ∨ ∃ j, ∃ hj : j < xss.length, j < i ∧ xss[j].length ≠ (xss.getD 0 []).length) with h | h | h | ⟨j, hj, h, h'⟩
                · exact .inl h
                · exact .inr (.inl h)
                · exact .inr (.inr (.inl h))
                · exact .inr (.inr (.inr ⟨j, hj, by omega, h'⟩))
              · by_cases e : j = i
                · subst e; rw [Hli.out]; exact hbig
                · exact H40.out j hj (by omega)
            case measure => simp [intOf]; omega
          | false =>
            by_cases heq : li = l0
            · subst heq
              go_wp2
              go_quiet (fail)
              go_wp2
              go_roundw
              case rel =>
                refine ⟨i + 1, false, by omega, by go_num, by simp, ⟨fun h => (by cases h), fun h => ?_⟩, fun j hj hji => ?_, ho.drewN _⟩
                · refine Hbi.out.2 ?_
                  rcases h with h | h | h | ⟨j, hj, h, h'⟩
                  · exact .inl h
                  · exact .inr (.inl h)
                  · exact .inr (.inr (.inl h))
                  · by_cases e : j = i
                    · subst e; exact absurd (Hli.out.trans Hl0.out) h'
                    · exact .inr (.inr (.inr ⟨j, hj, by omega, h'⟩))
                · by_cases e : j = i
                  · subst e; rw [Hli.out]; exact hbig
                  · exact H40.out j hj (by omega)
              case measure => simp [intOf]; omega
            · have hne : ((li : Int) != (l0 : Int)) = true := by simp; omega
              have hne2 : ¬ (li : Int) = (l0 : Int) := by omega
              go_wp2
              go_quiet (fail)
              go_wp2
              go_roundw
              case rel =>
                refine ⟨i + 1, true, by omega, by go_num, by simp [hne2], ⟨fun _ => .inr (.inr (.inr ⟨i, hlt, by omega, by rw [Hli.out, ← Hl0.out]; exact heq⟩)), fun _ => rfl⟩, fun j hj hji => ?_, ho.drewN _⟩
                by_cases e : j = i
                · subst e; rw [Hli.out]; exact hbig
                · exact H40.out j hj (by omega)
              case measure => simp [intOf]; omega
        · have g40 : (40 : Int) < (li : Int) := by omega
          go_wp2_with fail
          refine (aw (w := w) oa (HL.out _ oa)).mono ?_
          rintro e w5 ⟨rfl, o5⟩
          go_wp2
          go_ret
          exact ⟨rfl, o5⟩
      · obtain rfl : i = xss.length := by omega
        have hd0 : decide (xss.length < xss.length) = false := by simp
        cases b with
        | true =>
          obtain ⟨rfl, rfl⟩ : v5 = .slice none 0 0 ∧ z = 1 := by
            have hno : ¬ (okD d ∧ okC xss) := by
              rintro ⟨hD, hC1, hC2, hC3⟩
              rcases Hbi.out.1 rfl with h | h | h | ⟨j, hj, _, h⟩
              · exact h hD
              · exact absurd h (by omega)
              · exact absurd h (by omega)
              · exact h (hC3 j hj)
            rcases HBA.out with ⟨_, h1, h2⟩ | ⟨h, _⟩ | ⟨h, _⟩
            · exact ⟨h1, h2⟩
            · exact absurd h hno
            · exact absurd h hno
          go_wp2_with fail
          refine (aw (w := w) oa (HL.out _ oa)).mono ?_
          rintro e w5 ⟨rfl, o5⟩
          go_wp2
          go_ret
          exact ⟨rfl, o5⟩
        | false =>
          have hok : okD d ∧ okC xss := by
            have hn : ¬ (¬ okD d ∨ xss.length < 1 ∨ 8 < xss.length ∨ ∃ j, ∃ hj : j < xss.length, j < xss.length ∧ xss[j].length ≠ (xss.getD 0 []).length) := fun h => by cases Hbi.out.2 h
            refine ⟨Classical.byContradiction fun h => hn (.inl h), by omega, by omega, fun j hj => Classical.byContradiction fun h => hn (.inr (.inr (.inr ⟨j, hj, hj, h⟩)))⟩
          have hk : d = (((d - 1).toNat : Nat) : Int) + 1 := by have := hok.1.1; omega
          have hn40 : (xss.getD 0 []).length ≤ 40 := by
            have := H40.out 0 hok.2.1 hok.2.1
            have h0 : xss.length > 0 := hok.2.1
            rwa [show xss.getD 0 [] = xss[0] from by rw [List.getD_eq_getElem?_getD, List.getElem?_eq_getElem h0]; rfl]
          have HR := Lib.hid (refBytes_any d _ hk _ rfl A _ c xss (HX.out.nix oa) hok _ rfl hn40)
          have HBA2 : Hid (((¬ allD (d - 1).toNat xss) ∧ v5 = .slice none 0 0 ∧ z = 10) ∨ (allD (d - 1).toNat xss ∧ z = 0 ∧ wc.ownsRow w.heap.size 5 1 v5 (byTo (((d - 1).toNat + 8) / 8) xss (xss.getD 0 []).length).length ((byTo (((d - 1).toNat + 8) / 8) xss (xss.getD 0 []).length).map byt))) := by
            refine Lib.hid ?_
            rcases HBA.out with ⟨h, _⟩ | ⟨_, h⟩ | ⟨_, h⟩
            · exact absurd hok h
            · exact .inl h
            · exact .inr h
          have Hlt : Hid (∀ x ∈ byTo (((d - 1).toNat + 8) / 8) xss (xss.getD 0 []).length, x < 256) := Lib.hid (byTo_lt _ _ _)
          have Hbl : Hid ((byTo (((d - 1).toNat + 8) / 8) xss (xss.getD 0 []).length).length ≤ 1280) := by
            refine Lib.hid ?_
            rw [byTo_len]
            have := hok.1.2
            exact Nat.mul_le_mul hn40 (Nat.mul_le_mul hok.2.2.1 (by omega : ((d - 1).toNat + 8) / 8 ≤ 4))
          generalize byTo (((d - 1).toNat + 8) / 8) xss (xss.getD 0 []).length = BB at *
          have hq1 : ¬ d < 4 := by have := hok.1.1; omega
          clear HBA Hbi H40 hok hk hn40
          rcases HBA2.out with ⟨hbad, rfl, rfl⟩ | ⟨hall, rfl, hO5⟩
          · have Hbad := Lib.hid hbad
            clear hbad HBA2
            go_wp2_with fail
            refine (HR.out).mono ?_
            rintro e w2 ⟨⟨rfl, _⟩ | ⟨v', _, _, hh⟩, o2⟩
            · have ob := oa.trans o2
              go_wp2_with fail
              refine (aw (w := w) ob (HL.out _ ob)).mono ?_
              rintro e w5 ⟨rfl, o5⟩
              go_wp2
              go_ret
              exact ⟨rfl, o5⟩
            · exact absurd hh Hbad.out
          · have Hall := Lib.hid hall
            have HO5 := Lib.hid hO5
            obtain ⟨A5, c5, rfl⟩ := owns_slice hO5
            clear hall hO5 HBA2
            go_wp2_with fail
            refine (HR.out).mono ?_
            rintro e w2 ⟨⟨_, hh⟩ | ⟨v', rfl, hO6, _⟩, o2⟩
            · exact absurd Hall.out hh
            · have ob := oa.trans o2
              obtain ⟨A6, c6, rfl⟩ := owns_slice hO6
              have hbl := Hbl.out
              have HEQ := Lib.hid (equal_at (w := w) ob A5 A6 _ _ c5 c6 BB ((owns_src HO5.out (by omega) Hlt.out).nix (ho.trans o2)) (owns_src hO6 (by omega) Hlt.out))
              clear hO6 hbl
              generalize BB.length = n5 at *
              go_wp2_with fail
              refine (HEQ.out).mono ?_
              rintro e w3 ⟨rfl, o3⟩
              go_wp2_with fail
              refine (aw (w := w) o3 (HL.out _ o3)).mono ?_
              rintro e w5 ⟨rfl, o5⟩
              go_wp2
              go_ret
              exact ⟨rfl, o5⟩
  · have g10 : (10 : Int) < (xss.length : Int) := by omega
    clear hx
    go_enter Tryd.func5, Tryd.ntmps5
    go_wp2_with fail
    refine (aw (Only.refl _ _) (HL.out _ (Only.refl _ _))).mono ?_
    rintro e w5 ⟨rfl, o5⟩
    go_wp2
    go_ret
    exact ⟨rfl, o5⟩
end Go.Proofs.YtekmebbioalpdaaDoor
