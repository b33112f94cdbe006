/-
  The statements' Bytes, texts, few; the size of comments.
-/
import Derived.Test.YtphpciglpnbblaaDoorTV
namespace Go.Proofs.YtphpciglpnbblaaDoor
open Go.RowKit Go.Shelf

def EqP (w : World) (m : Nat) (s5 : Value) (wr : World) : Prop := ∃ j : Nat, j ≤ m ∧ s5 = iv j ∧ Only Nix w wr
set_option maxHeartbeats 400000 in
theorem equal_any {w : World} (A B : Option Addr) (c d : Nat) (bs : List Nat) (ha : Src w (.slice A bs.length c) bs) (hb : Src w (.slice B bs.length d) bs) :
    Calls Tryd.prog 11 #[.slice A bs.length c, .slice B bs.length d] w fun e w' => e = .returned (.bool true) ∧ Only Nix w w' := by
  have Ha := Lib.hid ha
  have Hb := Lib.hid hb
  have hsm := ha.small
  clear ha hb
  go_enter Tryd.func11, Tryd.ntmps11
  go_wp2
  go_loopw [5] (fun s5 wr => EqP w bs.length s5 wr) (fun s5 _ => bs.length - (intOf s5).toNat)
  case atStart => exact ⟨0, Nat.zero_le _, rfl, Only.refl _ _⟩
  case round =>
    obtain ⟨j, hj, rfl, ho⟩ := hrel
    by_cases hlt : j < bs.length
    · obtain ⟨ad, rfl, hx⟩ := (Ha.out.nix ho).at_ hlt
      obtain ⟨bd, rfl, hy⟩ := (Hb.out.nix ho).at_ hlt
      have hx256 := Ha.out.lt _ (List.getElem_mem hlt)
      generalize bs[j] = x at *
      unfold byt at hx hy
      have hlt2 : (j : Int) < (bs.length : Int) := by omega
      go_wp2
      go_quiet (fail)
      go_wp2
      go_roundw
      case rel => exact ⟨j + 1, by omega, by go_num, ho.drewN _⟩
      case measure => simp [intOf]; omega
    · have hlt2 : decide (j < bs.length) = false := by simp; omega
      go_wp2
      go_ret
      exact ⟨rfl, ho⟩
/-- .. of any spelling -/
theorem equal_at {u : World} {v1 v2 : Value} {bs : List Nat} (ha : Src u v1 bs) (hb : Src u v2 bs) :
    Calls Tryd.prog 11 #[v1, v2] u fun e w' => e = .returned (.bool true) ∧ Only Nix u w' := by
  obtain ⟨A, c, rfl⟩ := ha.slice
  obtain ⟨B, d, rfl⟩ := hb.slice
  exact equal_any A B c d bs ha hb
set_option maxHeartbeats 400000 in
theorem texts_at {w : World} {v1 v2 : Value} {l : List ByteArray} (ha : SSrc w v1 l) (hb : SSrc w v2 l) :
    Calls Tryd.prog 14 #[v1, v2] w fun e w' => e = .returned (.bool true) ∧ Only Nix w w' := by
  obtain ⟨A, c, rfl, _⟩ := ha.slice
  obtain ⟨B, d, rfl, _⟩ := hb.slice
  have Ha := Lib.hid ha
  have Hb := Lib.hid hb
  have hsm := ha.small
  clear ha hb
  go_enter Tryd.func14, Tryd.ntmps14
  go_wp2
  go_loopw [5] (fun s5 wr => EqP w l.length s5 wr) (fun s5 _ => l.length - (intOf s5).toNat)
  case atStart => exact ⟨0, Nat.zero_le _, rfl, Only.refl _ _⟩
  case round =>
    obtain ⟨j, hj, rfl, ho⟩ := hrel
    by_cases hlt : j < l.length
    · obtain ⟨ad, rfl, hx⟩ := (Ha.out.nix ho).at_ hlt
      obtain ⟨bd, rfl, hy⟩ := (Hb.out.nix ho).at_ hlt
      generalize l[j] = x at *
      have hlt2 : (j : Int) < (l.length : Int) := by omega
      go_wp2
      go_quiet (fail)
      go_wp2
      go_roundw
      case rel => exact ⟨j + 1, by omega, by go_num, ho.drewN _⟩
      case measure => simp [intOf]; omega
    · have hlt2 : decide (j < l.length) = false := by simp; omega
      go_wp2
      go_ret
      exact ⟨rfl, ho⟩
/-- comments as a value -/
abbrev cmV (V : ByteArray) (x : Value) : Value := .agg #[.string V, x]
/-- comments that are few, and short -/
def fewC (V : ByteArray) (l : List ByteArray) : Prop := (∀ s ∈ l, s.size ≤ 200) ∧ l.length ≤ 20 ∧ V.size ≤ 200
instance (V : ByteArray) (l : List ByteArray) : Decidable (fewC V l) := by unfold fewC; infer_instance
def FwRel (w : World) (l : List ByteArray) (s3 : Value) (wr : World) : Prop := ∃ j : Nat, j ≤ l.length ∧ s3 = iv j ∧ w = wr ∧ ∀ s ∈ l.take j, s.size ≤ 200
set_option maxHeartbeats 2000000 in
theorem few_any {w : World} {V : ByteArray} {x : Value} {l : List ByteArray} (hs : SSrc w x l) (hV : V.size ≤ 9223372036854775807) (hl : ∀ s ∈ l, s.size ≤ 9223372036854775807) :
    Calls Tryd.prog 7 #[cmV V x] w fun e w' => e = .returned (.bool (decide (fewC V l))) ∧ Only Nix w w' := by
  obtain ⟨A, c, rfl, hcap⟩ := hs.slice
  have hsm := hs.small
  obtain ⟨W1, hW1⟩ : ∃ W1, w.alloc (.cells #[.string V, .slice A l.length c] 24) = W1 := ⟨_, rfl⟩
  have b1 := Box.new w 24 #[.string V, .slice A l.length c]
  have a1 := Lib.hid ((Only.refl Nix w).alloc (.cells #[.string V, .slice A l.length c] 24))
  have HS := Lib.hid (hs.nix a1.out)
  rw [hW1] at b1 a1 HS
  have c0 := b1.cell 0
  have c1 := b1.cell 1
  simp only [List.getElem?_toArray, List.getElem?_cons_zero, List.getElem?_cons_succ] at c0 c1
  have HL := Lib.hid hl
  have HE : Hid (∀ b : Bool, (b = true ↔ fewC V l) → decide (fewC V l) = b) := Lib.hid (fun b h => by
    cases b with
    | true => exact decide_eq_true (h.1 rfl)
    | false => exact decide_eq_false (fun hh => by cases h.2 hh))
  obtain ⟨E, hE⟩ : ∃ E, decide (fewC V l) = E := ⟨_, rfl⟩
  rw [hE] at HE ⊢
  clear b1 hs hl hcap hE
  go_enter Tryd.func7, Tryd.ntmps7
  go_wp2
  go_loopw [3] (fun s3 wr => FwRel W1 l s3 wr) (fun s3 _ => l.length - (intOf s3).toNat)
  case atStart => exact ⟨0, Nat.zero_le _, rfl, rfl, fun s h => by simp at h⟩
  case round =>
    obtain ⟨j, hj, rfl, rfl, hall⟩ := hrel
    have HA := Lib.hid hall
    clear hall
    by_cases hlt : j < l.length
    · obtain ⟨ad, rfl, hx⟩ := HS.out.at_ hlt
      have hlt2 : (j : Int) < (l.length : Int) := by omega
      have hz := HL.out _ (List.getElem_mem hlt)
      have HT := Lib.hid (List.take_succ_eq_append_getElem hlt)
      have HM := Lib.hid (List.getElem_mem hlt)
      generalize l[j] = x at *
      by_cases hx2 : x.size ≤ 200
      · have hx3 : ¬ (200 : Int) < (x.size : Int) := by omega
        go_wp2
        go_roundw
        case rel => exact ⟨j + 1, hlt, by go_num, rfl, fun s hs => by
          rw [HT.out] at hs
          rcases List.mem_append.1 hs with h | h
          · exact HA.out s h
          · rw [List.mem_singleton.1 h]; exact hx2⟩
        case measure => simp [intOf]; omega
      · have hx3 : (200 : Int) < (x.size : Int) := by omega
        have HF := Lib.hid (HE.out false ⟨(fun h => by cases h), fun h => absurd (h.1 _ HM.out) hx2⟩)
        go_wp2
        go_ret
        exact ⟨by rw [HF.out]; rfl, a1.out⟩
    · have hlt2 : decide (j < l.length) = false := by simp; omega
      have hall : ∀ s ∈ l, s.size ≤ 200 := by
        have h := HA.out
        rw [List.take_of_length_le (by omega)] at h
        exact h
      by_cases h20 : l.length ≤ 20
      · have h20i : (l.length : Int) ≤ 20 := by omega
        by_cases hv : V.size ≤ 200
        · have hvi : (V.size : Int) ≤ 200 := by omega
          have HF := Lib.hid (HE.out true ⟨fun _ => ⟨hall, h20, hv⟩, fun _ => rfl⟩)
          go_wp2
          go_ret
          exact ⟨by rw [HF.out]; rfl, a1.out⟩
        · have hvi : decide ((V.size : Int) ≤ 200) = false := by simp; omega
          have hvj : decide (V.size ≤ 200) = false := by simp; omega
          have HF := Lib.hid (HE.out false ⟨(fun h => by cases h), fun h => absurd h.2.2 hv⟩)
          go_wp2
          go_ret
          exact ⟨by rw [HF.out]; rfl, a1.out⟩
      · have h20i : decide ((l.length : Int) ≤ 20) = false := by simp; omega
        have h20j : decide (l.length ≤ 20) = false := by simp; omega
        have HF := Lib.hid (HE.out false ⟨(fun h => by cases h), fun h => absurd h.2.1 h20⟩)
        go_wp2
        go_ret
        exact ⟨by rw [HF.out]; rfl, a1.out⟩
/-- how many bytes comments have -/
def szL (l : List ByteArray) : Nat := (l.map fun s => 4 + s.size).sum
theorem szL_snoc (l : List ByteArray) (s : ByteArray) : szL (l ++ [s]) = szL l + (4 + s.size) := by simp [szL]
theorem szL_take (l : List ByteArray) (j : Nat) : szL (l.take j) ≤ szL l := by
  have h : szL (l.take j ++ l.drop j) = szL (l.take j) + szL (l.drop j) := by unfold szL; rw [List.map_append, List.sum_append]
  rw [List.take_append_drop] at h
  omega
def SzRel (w : World) (V : ByteArray) (l : List ByteArray) (s3 s14 : Value) (wr : World) : Prop := ∃ j : Nat, j ≤ l.length ∧ s14 = iv j ∧ w = wr ∧ s3 = iv ((8 + V.size + szL (l.take j) : Nat) : Int)
set_option maxHeartbeats 2000000 in
theorem size_any {w : World} {V : ByteArray} {x : Value} {l : List ByteArray} (hs : SSrc w x l) (hV : V.size ≤ 1000000) (hl : szL l ≤ 1000000) :
    Calls Tryd.prog 25 #[cmV V x] w fun e w' => e = .returned (iv ((8 + V.size + szL l : Nat) : Int)) ∧ Only Nix w w' := by
  obtain ⟨A, c, rfl, hcap⟩ := hs.slice
  have hsm := hs.small
  obtain ⟨W1, hW1⟩ : ∃ W1, w.alloc (.cells #[.string V, .slice A l.length c] 24) = W1 := ⟨_, rfl⟩
  have b1 := Box.new w 24 #[.string V, .slice A l.length c]
  have a1 := Lib.hid ((Only.refl Nix w).alloc (.cells #[.string V, .slice A l.length c] 24))
  have HS := Lib.hid (hs.nix a1.out)
  rw [hW1] at b1 a1 HS
  have c0 := b1.cell 0
  have c1 := b1.cell 1
  simp only [List.getElem?_toArray, List.getElem?_cons_zero, List.getElem?_cons_succ] at c0 c1
  have Htk := Lib.hid (fun j => Nat.le_trans (szL_take l j) hl)
  have HTl : Hid (l.take l.length = l) := Lib.hid (List.take_length)
  clear b1 hs hl hcap
  go_enter Tryd.func25, Tryd.ntmps25
  go_wp2
  go_loopw [3, 14] (fun s3 s14 wr => SzRel W1 V l s3 s14 wr) (fun _ s14 _ => l.length - (intOf s14).toNat)
  case atStart => exact ⟨0, Nat.zero_le _, rfl, rfl, by simp [szL]; go_num⟩
  case round =>
    obtain ⟨j, hj, rfl, rfl, rfl⟩ := hrel
    by_cases hlt : j < l.length
    · obtain ⟨ad, rfl, hx⟩ := HS.out.at_ hlt
      have hlt2 : (j : Int) < (l.length : Int) := by omega
      have HT := Lib.hid (List.take_succ_eq_append_getElem hlt)
      have HB := Htk.out (j + 1)
      rw [HT.out, szL_snoc] at HB
      generalize l[j] = x at *
      generalize hZ : szL (l.take j) = Z at *
      have HZ := Lib.hid hZ
      clear hZ
      go_wp2
      go_roundw
      case rel => exact ⟨j + 1, hlt, by go_num, rfl, by rw [HT.out, szL_snoc, HZ.out]; go_num⟩
      case measure => simp [intOf]; omega
    · have hlt2 : decide (j < l.length) = false := by simp; omega
      obtain rfl : j = l.length := by omega
      go_wp2
      go_ret
      exact ⟨by rw [HTl.out]; rfl, a1.out⟩
end Go.Proofs.YtphpciglpnbblaaDoor
