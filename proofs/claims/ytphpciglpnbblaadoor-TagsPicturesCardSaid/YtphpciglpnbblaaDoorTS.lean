/-
  The reader of tags: numbers, texts, lists.
-/
import Derived.Test.YtphpciglpnbblaaDoorTR
import Derived.OwnWalk
namespace Go.Proofs.YtphpciglpnbblaaDoor
open Go.RowKit Go.Shelf

/-- the number that bytes are, the lowest one first -/
def lv : List Nat → Nat
  | [] => 0
  | x :: l => x + 256 * lv l
theorem lv_lt : ∀ l : List Nat, (∀ x ∈ l, x < 256) → lv l < 2 ^ (8 * l.length)
  | [], _ => by simp [lv]
  | x :: l, h => by
    have h1 := lv_lt l (fun y hy => h y (List.mem_cons_of_mem _ hy))
    have h2 := h x (List.mem_cons_self ..)
    rw [List.length_cons, show 8 * (l.length + 1) = 8 + 8 * l.length by omega, Nat.pow_add]
    unfold lv
    generalize 2 ^ (8 * l.length) = K at *
    omega
theorem lv_snoc : ∀ (l : List Nat) (x : Nat), lv (l ++ [x]) = lv l + x * 2 ^ (8 * l.length)
  | [], x => by simp [lv]
  | y :: l, x => by
    rw [List.cons_append]
    unfold lv
    rw [lv_snoc l x, List.length_cons, show 8 * (l.length + 1) = 8 + 8 * l.length by omega, Nat.pow_add, show (2 : Nat) ^ 8 = 256 by decide, Nat.mul_left_comm x 256]
    omega
theorem tkB_len (m : Nat) (rest : List Nat) : (tkB m rest).length = if rest.length < m then 0 else m := by
  unfold tkB
  split
  · rfl
  · rw [List.length_take]; omega
theorem tkB_lt (m : Nat) (rest : List Nat) (h : ∀ x ∈ rest, x < 256) : ∀ x ∈ tkB m rest, x < 256 := fun x hx => by
  unfold tkB at hx
  split at hx
  · cases hx
  · exact h x (List.mem_of_mem_take hx)
theorem tkR_lt (m : Nat) (rest : List Nat) (h : ∀ x ∈ rest, x < 256) : ∀ x ∈ tkR m rest, x < 256 := fun x hx => by
  unfold tkR at hx
  split at hx
  · exact h x hx
  · exact h x (List.mem_of_mem_drop hx)
theorem tkR_len (m : Nat) (rest : List Nat) : (tkR m rest).length = if rest.length < m then rest.length else rest.length - m := by
  unfold tkR
  split
  · rfl
  · rw [List.length_drop]
/-- a number was taken -/
def NmR (w : World) (b m : Nat) (num : List Nat → Nat) (rest : List Nat) (sh off : Bool) (e : Ending) (w' : World) : Prop :=
  e = .returned (iv (num (tkB m rest) : Nat)) ∧ Rd w' b (tkR m rest) (sh || decide (rest.length < m)) off ∧ Only (Just b) w w'
theorem or_low (V x k : Nat) (hk : k ≤ 3) (hV : V < 2 ^ (8 * k)) (hx : x < 256) : bits .or .i64 (V : Int) ((x : Int) * 2 ^ (8 * k)) = ((V + x * 2 ^ (8 * k) : Nat) : Int) := by
  have h1 : 2 ^ (8 * k) ≤ 2 ^ 24 := Nat.pow_le_pow_right (by decide) (by omega)
  have h2 : x * 2 ^ (8 * k) ≤ 255 * 2 ^ 24 := Nat.mul_le_mul (by omega) h1
  rw [pow_cast, ← Int.natCast_mul, i64_or_nat _ _ (by omega) (by omega), Nat.or_comm, nat_join (8 * k) _ _ (Nat.mul_mod_left _ _) hV, Nat.add_comm]
theorem w64_shl (x k : Nat) (hk : k ≤ 3) (hx : x < 256) : wrap64 ((x : Int) * 2 ^ (8 * k)) = (x : Int) * 2 ^ (8 * k) := by
  have h1 : 2 ^ (8 * k) ≤ 2 ^ 24 := Nat.pow_le_pow_right (by decide) (by omega)
  have h2 : x * 2 ^ (8 * k) ≤ 255 * 2 ^ 24 := Nat.mul_le_mul (by omega) h1
  rw [pow_cast, ← Int.natCast_mul]
  exact w64 _ (by omega) (by omega)
def LwRel (w : World) (bs : List Nat) (s2 s8 : Value) (wr : World) : Prop := ∃ k : Nat, k ≤ bs.length ∧ s8 = iv k ∧ s2 = iv ((lv (bs.take k) : Nat) : Int) ∧ w = wr
set_option maxHeartbeats 4000000 in
theorem low_any {w : World} {b : Nat} {rest : List Nat} {sh off : Bool} (h : Rd w b rest sh off) :
    Calls Tryd.prog 30 #[.pointer (some ⟨b, 0, none⟩)] w fun e w' => NmR w b 4 lv rest sh off e w' := by
  have HT := Lib.hid (take_any h (m := 4) (by decide))
  have hlt := tkB_lt 4 rest h.small.2
  have hln := tkB_len 4 rest
  have HR : Hid (∀ e w', NmR w b 4 lv rest sh off e w' ↔ e = .returned (iv (lv (tkB 4 rest) : Nat)) ∧ Rd w' b (tkR 4 rest) (sh || decide (rest.length < 4)) off ∧ Only (Just b) w w') := Lib.hid (fun _ _ => Iff.rfl)
  unfold TkR at HT
  rw [show ((4 : Nat) : Int) = 4 from rfl] at HT
  have h4 : (tkB 4 rest).length ≤ 4 := by split at hln <;> omega
  generalize tkB 4 rest = bs at *
  generalize NmR w b 4 lv rest sh off = QQ at *
  generalize tkR 4 rest = r2 at *
  generalize (sh || decide (rest.length < 4)) = s2 at *
  clear hln
  have HLt := Lib.hid hlt
  have H4 := Lib.hid h4
  clear h hlt h4
  go_enter Tryd.func30, Tryd.ntmps30
  go_wp2_with fail
  refine (HT.out).mono ?_
  rintro e w1 ⟨⟨v, rfl, hs, _⟩, hr, ho⟩
  obtain ⟨A, c, rfl, hcap⟩ := hs.form
  have HS := Lib.hid hs
  have HRr := Lib.hid hr
  have HO := Lib.hid ho
  have hsm := hs.src.small
  have HE : Hid (bs.take bs.length = bs) := Lib.hid (List.take_of_length_le (Nat.le_refl _))
  clear hs hr ho
  go_wp2
  go_loopw [2, 8] (fun s2 s8 wr => LwRel w1 bs s2 s8 wr) (fun _ s8 _ => bs.length - (intOf s8).toNat)
  case atStart => exact ⟨0, Nat.zero_le _, rfl, by simp [lv], rfl⟩
  case round =>
    obtain ⟨k, hk, rfl, rfl, rfl⟩ := hrel
    by_cases hlt : k < bs.length
    · obtain ⟨ad, rfl, hx⟩ := HS.out.src.at_ hlt
      have hxl := HS.out.src.lt _ (List.getElem_mem hlt)
      have hlti : (k : Int) < (bs.length : Int) := by omega
      have hk3 : k ≤ 3 := by have := H4.out; omega
      have HTk : Hid (lv (bs.take (k + 1)) = lv (bs.take k) + bs[k] * 2 ^ (8 * k)) := Lib.hid (by rw [List.take_succ_eq_append_getElem hlt, lv_snoc, List.length_take, Nat.min_eq_left hk])
      have hV : lv (bs.take k) < 2 ^ (8 * k) := by
        have := lv_lt (bs.take k) (fun x hx => HLt.out x (List.mem_of_mem_take hx))
        rwa [List.length_take, Nat.min_eq_left hk] at this
      generalize bs[k] = x at *
      generalize lv (bs.take k) = V at *
      have ho := or_low V x k hk3 hV hxl
      have hw := w64_shl x k hk3 hxl
      unfold byt at hx
      clear hV
      go_wp2
      go_roundw
      case rel => exact ⟨k + 1, hlt, by go_num, by rw [HTk.out]; rfl, rfl⟩
      case measure => simp [intOf]; omega
    · obtain rfl : k = bs.length := by omega
      have hlti : ¬ ((bs.length : Nat) : Int) < (bs.length : Int) := by omega
      go_wp2
      exact (HR.out _ _).2 ⟨rfl, HRr.out, HO.out⟩
def NbRel (w : World) (bs : List Nat) (s4 s11 : Value) (wr : World) : Prop := ∃ k : Nat, k ≤ bs.length ∧ s11 = iv k ∧ s4 = iv ((vl (bs.take k) : Nat) : Int) ∧ w = wr
theorem or_high (V x : Nat) (hV : V < 281474976710656) (hx : x < 256) : bits .or .i64 ((V : Int) * 256) (x : Int) = ((V * 256 + x : Nat) : Int) := by
  have h := i64_or_nat (V * 256) x (by omega) (by omega)
  rw [Int.natCast_mul] at h
  rw [show ((256 : Nat) : Int) = 256 from rfl] at h
  rw [h, nat_join 8 (V * 256) x (by omega) hx]
set_option maxHeartbeats 4000000 in
theorem number_any {w : World} {b m : Nat} {rest : List Nat} {sh off : Bool} (h : Rd w b rest sh off) (hm : m ≤ 6) :
    Calls Tryd.prog 55 #[.pointer (some ⟨b, 0, none⟩), iv m] w fun e w' => NmR w b m vl rest sh off e w' := by
  have HT := Lib.hid (take_any h (m := m) (by omega))
  have hlt := tkB_lt m rest h.small.2
  have hln := tkB_len m rest
  have HR : Hid (∀ e w', NmR w b m vl rest sh off e w' ↔ e = .returned (iv (vl (tkB m rest) : Nat)) ∧ Rd w' b (tkR m rest) (sh || decide (rest.length < m)) off ∧ Only (Just b) w w') := Lib.hid (fun _ _ => Iff.rfl)
  unfold TkR at HT
  have h4 : (tkB m rest).length ≤ 6 := by split at hln <;> omega
  generalize tkB m rest = bs at *
  generalize NmR w b m vl rest sh off = QQ at *
  generalize tkR m rest = r2 at *
  generalize (sh || decide (rest.length < m)) = s2 at *
  clear hln
  have HLt := Lib.hid hlt
  have H4 := Lib.hid h4
  clear h hlt h4 hm
  go_enter Tryd.func55, Tryd.ntmps55
  go_wp2_with fail
  refine (HT.out).mono ?_
  rintro e w1 ⟨⟨v, rfl, hs, _⟩, hr, ho⟩
  obtain ⟨A, c, rfl, hcap⟩ := hs.form
  have HS := Lib.hid hs
  have HRr := Lib.hid hr
  have HO := Lib.hid ho
  have hsm := hs.src.small
  have HE : Hid (bs.take bs.length = bs) := Lib.hid (List.take_of_length_le (Nat.le_refl _))
  clear hs hr ho
  go_wp2
  go_loopw [4, 11] (fun s4 s11 wr => NbRel w1 bs s4 s11 wr) (fun _ s11 _ => bs.length - (intOf s11).toNat)
  case atStart => exact ⟨0, Nat.zero_le _, rfl, by simp [vl], rfl⟩
  case round =>
    obtain ⟨k, hk, rfl, rfl, rfl⟩ := hrel
    by_cases hlt : k < bs.length
    · obtain ⟨ad, rfl, hx⟩ := HS.out.src.at_ hlt
      have hxl := HS.out.src.lt _ (List.getElem_mem hlt)
      have hlti : (k : Int) < (bs.length : Int) := by omega
      have hk3 : k ≤ 5 := by have := H4.out; omega
      have HTk : Hid (vl (bs.take (k + 1)) = vl (bs.take k) * 256 + bs[k]) := Lib.hid (by rw [List.take_succ_eq_append_getElem hlt, vl_snoc])
      have hV : vl (bs.take k) < 281474976710656 := by
        have := vl_lt (bs.take k) (fun x hx => HLt.out x (List.mem_of_mem_take hx))
        rw [List.length_take, Nat.min_eq_left hk] at this
        refine Nat.lt_of_lt_of_le this ?_
        rw [show (281474976710656 : Nat) = 2 ^ 48 by decide]
        exact Nat.pow_le_pow_right (by decide) (by omega)
      generalize bs[k] = x at *
      generalize vl (bs.take k) = V at *
      have ho := or_high V x hV hxl
      have hw : wrap64 ((V : Int) * 256) = (V : Int) * 256 := w64 _ (by omega) (by omega)
      unfold byt at hx
      go_wp2
      go_roundw
      case rel => exact ⟨k + 1, hlt, by go_num, by rw [HTk.out]; rfl, rfl⟩
      case measure => simp [intOf]; omega
    · obtain rfl : k = bs.length := by omega
      have hlti : ¬ ((bs.length : Nat) : Int) < (bs.length : Int) := by omega
      go_wp2
      exact (HR.out _ _).2 ⟨rfl, HRr.out, HO.out⟩
end Go.Proofs.YtphpciglpnbblaaDoor
