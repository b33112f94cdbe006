/-
  The document's Big, number, ordered: their walks.
-/
import Derived.Test.YtighdjbeddcckaaVN
namespace Go.Proofs.Ytighdjbeddcckaa
open Go.RowKit Go.Shelf

def BgI (w : World) (m n : Nat) (s5 s6 : Value) (wr : World) : Prop := ∃ j : Nat, j ≤ m ∧ s6 = iv ((m : Int) - 1 - (j : Int)) ∧ Owns wr w.heap.size 5 byt s5 ((be m n).take j) ∧ Only Nix w wr
set_option maxHeartbeats 4000000 in
theorem big_any {w : World} (m n : Nat) (hm : m ≤ 8) (hn : n < 9223372036854775808) :
    Calls Try.prog 31 #[iv n, iv m] w fun e w' => ∃ v, e = .returned v ∧ Owns w' w.heap.size 5 byt v (be m n) ∧ Only Nix w w' := by
  go_enter Try.func31, Try.ntmps31
  go_wp2
  go_loopw [5, 6] (fun s5 s6 wr => BgI w m n s5 s6 wr) (fun _ s6 _ => (intOf s6 + 1).toNat)
  case atStart => exact ⟨0, Nat.zero_le _, by go_num, Owns.nil _ _ _ _, Only.refl _ _⟩
  case round =>
    obtain ⟨j, hj, rfl, ho, hw⟩ := hrel
    have HO := Lib.hid ho
    have HW := Lib.hid hw
    have hsz := hw.size
    clear ho hw
    by_cases hlt : j < m
    · obtain ⟨K, hK⟩ : ∃ K : Nat, m - 1 - j = K := ⟨_, rfl⟩
      have hKi : (m : Int) - 1 - (j : Int) = (K : Int) := by omega
      have HT := Lib.hid (be_take m n j hlt)
      rw [hK] at HT
      have hK7 : K ≤ 7 := by omega
      rw [hKi]
      have HK := Lib.hid hKi
      clear hK hKi
      have HC : Hid ((wr.alloc (.cells #[.int .u8 ((n : Int) / 2 ^ (8 * K) % 256)] 5)).cell? ⟨wr.heap.size, 0, none⟩ = some (byt (n / 2 ^ (8 * K) % 256))) := Lib.hid (by
        have e : (n : Int) / 2 ^ (8 * K) % 256 = ((n / 2 ^ (8 * K) % 256 : Nat) : Int) := by rw [pow_cast, Int.natCast_emod, Int.natCast_ediv]; rfl
        rw [e]
        exact (Box.new wr 5 #[.int .u8 ((n / 2 ^ (8 * K) % 256 : Nat) : Int)]).cell 0)
      have hl1 : ((be m n).take j).length ≤ 100000 := by rw [List.length_take, be_len]; omega
      have HL1 := Lib.hid hl1
      have HSz := Lib.hid hsz
      have hpos : (0 : Int) ≤ (n : Int) / 2 ^ (8 * K) := Int.ediv_nonneg (by omega) (by rw [pow_cast]; exact Int.natCast_nonneg _)
      have htm : ((n : Int) / 2 ^ (8 * K)).tmod 256 = (n : Int) / 2 ^ (8 * K) % 256 := Int.tmod_eq_emod_of_nonneg hpos
      clear hl1 hsz
      go_wp2_with (at_builtin; refine app_byte rfl (.tmp 13) (.tmp 20) rfl w.heap.size u5 ((be m n).take j) rfl ?own1 wr.heap.size (n / 2 ^ (8 * K) % 256) rfl HC.out HL1.out ?base1 ?rest1)
      case own1 => exact World.ownsRow.alloc HO.out _
      case base1 => have := HSz.out; simp; omega
      case rest1 =>
        intro v1 w1 r1 g1 m1
        have HO1 := Lib.hid r1
        have HW1 := Lib.hid ((HW.out.alloc _).grown g1 (fun k hk => .inr (HO.out.lt hk).1))
        clear r1 g1 m1
        go_wp2
        go_roundw
        case rel => exact ⟨j + 1, hlt, by rw [← HK.out]; go_num, by rw [HT.out]; exact HO1.out, HW1.out⟩
        case measure => simp [intOf]
    · obtain rfl : j = m := by omega
      have hneg : (j : Int) - 1 - (j : Int) = -1 := by omega
      rw [hneg]
      have HE : Hid ((be j n).take j = be j n) := Lib.hid (List.take_of_length_le (by rw [be_len]; exact Nat.le_refl _))
      clear hneg
      go_wp2
      go_ret
      exact ⟨_, rfl, by rw [← HE.out]; exact HO.out, HW.out⟩
/-- the document's number -/
def nbV (bs : List Nat) : Int := if ∀ x ∈ bs, x = 255 then -1 else if 127 < bs.getD 0 0 then -2 else (vl bs : Nat)
def al (bs : List Nat) (j : Nat) : Prop := ∀ x ∈ bs.take j, x = 255
instance (bs : List Nat) (j : Nat) : Decidable (al bs j) := by unfold al; infer_instance
theorem al_succ {bs : List Nat} {j : Nat} (h : j < bs.length) : al bs (j + 1) ↔ al bs j ∧ bs[j] = 255 := by
  unfold al
  rw [List.take_succ_eq_append_getElem h]
  constructor
  · intro hh
    exact ⟨fun x hx => hh x (List.mem_append_left _ hx), hh _ (List.mem_append_right _ (List.mem_singleton.2 rfl))⟩
  · rintro ⟨h1, h2⟩ x hx
    rcases List.mem_append.1 hx with hx | hx
    · exact h1 x hx
    · rw [List.mem_singleton.1 hx]; exact h2
def NbI (w : World) (bs : List Nat) (s4 s5 : Value) (wr : World) : Prop := ∃ j : Nat, j ≤ 8 ∧ s5 = iv j ∧ s4 = .bool (decide (al bs j)) ∧ w = wr
def NbJ (w : World) (bs : List Nat) (s3 s6 : Value) (wr : World) : Prop := ∃ j : Nat, j ≤ 8 ∧ s6 = iv j ∧ s3 = iv (vl (bs.take j) : Nat) ∧ w = wr
theorem vl_top {bs : List Nat} (hl : bs.length = 8) (hb : ∀ x ∈ bs, x < 256) (h0 : ¬ 127 < bs.getD 0 0) : vl bs < 9223372036854775808 := by
  match bs, hl with
  | [a, b, c, d, e, f, g, h], _ =>
    have h1 := hb a (by simp)
    have h2 := hb b (by simp)
    have h3 := hb c (by simp)
    have h4 := hb d (by simp)
    have h5 := hb e (by simp)
    have h6 := hb f (by simp)
    have h7 := hb g (by simp)
    have h8 := hb h (by simp)
    simp at h0
    simp only [vl, List.foldl_cons, List.foldl_nil]
    omega
theorem vl_mono (bs : List Nat) (j : Nat) : vl (bs.take j) ≤ vl bs := by
  have key : ∀ (l : List Nat) (a : Nat), a ≤ l.foldl (fun a x => a * 256 + x) a := by
    intro l
    induction l with
    | nil => intro a; exact Nat.le_refl _
    | cons x l ih => intro a; exact Nat.le_trans (by omega) (ih (a * 256 + x))
  have e : bs = bs.take j ++ bs.drop j := (List.take_append_drop j bs).symm
  have h2 : vl bs = (bs.drop j).foldl (fun a x => a * 256 + x) (vl (bs.take j)) := by
    conv => lhs; rw [e]
    unfold vl
    rw [List.foldl_append]
  rw [h2]
  exact key _ _
set_option maxRecDepth 100000 in
set_option maxHeartbeats 8000000 in
theorem numberRef_any {w : World} {A : Option Addr} {n c : Nat} {bs : List Nat} (hs : Src w (.slice A n c) bs) (hl : bs.length = 8) : Calls Try.prog 35 #[.slice A n c] w fun e w' => e = .returned (iv (nbV bs)) ∧ w = w' := by
  have hlen := hs.len
  obtain rfl : n = 8 := by omega
  have HS := Lib.hid hs
  have HL := Lib.hid hl
  obtain ⟨ad, rfl, hx0⟩ := hs.at_ (k := 0) (by rw [HL.out]; decide)
  have h00 : ad.add 0 = ad := by simp [Addr.add]
  rw [h00] at hx0
  have HX0 := Lib.hid hx0
  have Hlt := Lib.hid hs.lt
  clear hs hlen hx0 h00
  have H0 : Hid (bs.getD 0 0 = bs[0]'(by rw [HL.out]; decide)) := Lib.hid (by rw [List.getD_eq_getElem?_getD, List.getElem?_eq_getElem (by rw [HL.out]; decide), Option.getD_some])
  go_enter Try.func35, Try.ntmps35
  go_wp2
  go_loopw [4, 5] (fun s4 s5 wr => NbI w bs s4 s5 wr) (fun _ s5 _ => 8 - (intOf s5).toNat)
  case atStart => exact ⟨0, by decide, rfl, by rw [decide_eq_true (show al bs 0 from fun x hx => absurd hx (by simp))], rfl⟩
  case round =>
    obtain ⟨j, hj, rfl, rfl, rfl⟩ := hrel
    by_cases hlt : j < 8
    · have hjl : j < bs.length := by rw [HL.out]; exact hlt
      obtain ⟨ad', e, hx⟩ := HS.out.at_ hjl
      injection e with e
      subst e
      have hlti : (j : Int) < 8 := by omega
      have HA := Lib.hid (al_succ hjl)
      unfold byt at hx
      generalize bs[j] = x at *
      by_cases ha : al bs j
      · rw [decide_eq_true ha]
        by_cases hx5 : x = 255
        · have HZ : Hid (decide (al bs (j + 1)) = true) := Lib.hid (decide_eq_true (HA.out.2 ⟨ha, hx5⟩))
          subst hx5
          clear HA ha
          go_wp2
          go_roundw
          case rel => exact ⟨j + 1, hlt, by go_num, by rw [HZ.out], rfl⟩
          case measure => simp [intOf]; omega
        · have HZ : Hid (decide (al bs (j + 1)) = false) := Lib.hid (decide_eq_false (fun h => hx5 (HA.out.1 h).2))
          have hxb : ((x : Int) == 255) = false := by simp; omega
          clear HA ha
          go_wp2
          go_roundw
          case rel => exact ⟨j + 1, hlt, by go_num, by rw [HZ.out], rfl⟩
          case measure => simp [intOf]; omega
      · rw [decide_eq_false ha]
        have HZ : Hid (decide (al bs (j + 1)) = false) := Lib.hid (decide_eq_false (fun h => ha (HA.out.1 h).1))
        clear HA ha
        go_wp2
        go_roundw
        case rel => exact ⟨j + 1, hlt, by go_num, by rw [HZ.out], rfl⟩
        case measure => simp [intOf]; omega
    · obtain rfl : j = 8 := by omega
      rw [show ((8 : Nat) : Int) = 8 from rfl]
      have hT : bs.take 8 = bs := List.take_of_length_le (by rw [HL.out]; decide)
      have hal : al bs 8 ↔ ∀ x ∈ bs, x = 255 := by unfold al; rw [hT]
      by_cases ha : ∀ x ∈ bs, x = 255
      · have HZ : Hid (nbV bs = -1) := Lib.hid (if_pos ha)
        rw [decide_eq_true (hal.2 ha)]
        clear ha hal hT
        go_wp2
        go_ret
        exact ⟨by rw [HZ.out]; rfl, rfl⟩
      · rw [decide_eq_false (fun h => ha (hal.1 h))]
        have HN : Hid (nbV bs = if 127 < bs.getD 0 0 then (-2 : Int) else ((vl bs : Nat) : Int)) := Lib.hid (if_neg ha)
        have hx0 := HX0.out
        unfold byt at hx0
        have Hv8 : Hid (¬ 127 < bs.getD 0 0 → ∀ j, j ≤ 8 → vl (bs.take j) < 9223372036854775808) := Lib.hid (fun h j _ => Nat.lt_of_le_of_lt (vl_mono bs j) (vl_top HL.out Hlt.out h))
        rw [H0.out] at HN Hv8
        obtain ⟨y, hy0⟩ : ∃ z, bs[0]'(by rw [HL.out]; decide) = z := ⟨_, rfl⟩
        rw [hy0] at HN Hv8 hx0
        clear ha hal hT hy0
        by_cases hy : 127 < y
        · have HZ : Hid (nbV bs = -2) := Lib.hid (by rw [HN.out, if_pos hy])
          have hyi : (127 : Int) < (y : Int) := by omega
          go_wp2
          go_ret
          exact ⟨by rw [HZ.out]; rfl, rfl⟩
        · have HZ : Hid (nbV bs = (vl bs : Nat)) := Lib.hid (by rw [HN.out, if_neg hy])
          have hyi : ¬ (127 : Int) < (y : Int) := by omega
          have HV := Lib.hid (Hv8.out hy)
          clear Hv8 HN
          go_wp2
          go_loopw [3, 6] (fun s3 s6 wr => NbJ w bs s3 s6 wr) (fun _ s6 _ => 8 - (intOf s6).toNat)
          case atStart => exact ⟨0, by decide, rfl, by simp [vl], rfl⟩
          case round =>
            obtain ⟨j, hj, rfl, rfl, rfl⟩ := hrel
            by_cases hlt : j < 8
            · have hjl : j < bs.length := by rw [HL.out]; exact hlt
              obtain ⟨ad', e, hx⟩ := HS.out.at_ hjl
              injection e with e
              subst e
              have hlti : (j : Int) < 8 := by omega
              have HT : Hid (vl (bs.take (j + 1)) = vl (bs.take j) * 256 + bs[j]) := Lib.hid (by rw [List.take_succ_eq_append_getElem hjl, vl_snoc])
              have hv1 := HV.out (j + 1) (by omega)
              rw [HT.out] at hv1
              have hx256 := Hlt.out _ (List.getElem_mem hjl)
              unfold byt at hx
              generalize bs[j] = x at *
              generalize vl (bs.take j) = V at *
              go_wp2
              go_roundw
              case rel => exact ⟨j + 1, hlt, by go_num, by rw [HT.out]; go_num, rfl⟩
              case measure => simp [intOf]; omega
            · obtain rfl : j = 8 := by omega
              rw [show ((8 : Nat) : Int) = 8 from rfl]
              have HT : Hid (bs.take 8 = bs) := Lib.hid (List.take_of_length_le (by rw [HL.out]; decide))
              have HE : Hid (vl (bs.take 8) = vl bs) := Lib.hid (by rw [HT.out])
              generalize vl (bs.take 8) = V at *
              go_wp2
              go_ret
              exact ⟨by rw [HZ.out, ← HE.out]; rfl, rfl⟩
end Go.Proofs.Ytighdjbeddcckaa
