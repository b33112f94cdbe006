/-
  The reader of tags: texts.
-/
import Derived.Test.YtphpciglpnbblaaDoorTS
import Derived.OwnWalk
namespace Go.Proofs.YtphpciglpnbblaaDoor
open Go.RowKit Go.Shelf

/-- a method value of a reader -/
abbrev mv (k b : Nat) : Value := .func (.func k) #[.pointer (some ⟨b, 0, none⟩)] #[]
/-- function k reads a number of four bytes -/
structure Reads (k : Nat) (num : List Nat → Nat) : Prop where
  enters : ∀ args w, (callFunc k args).run Tryd.prog w = .ok (.enter k args) w
  does : ∀ (w : World) (b : Nat) (rest : List Nat) (sh off : Bool), Rd w b rest sh off → Calls Tryd.prog k #[.pointer (some ⟨b, 0, none⟩)] w fun e w' => NmR w b 4 num rest sh off e w'
  lt : ∀ l : List Nat, l.length ≤ 4 → (∀ x ∈ l, x < 256) → num l < 4294967296
theorem reads_low : Reads 30 lv := ⟨enters_of Tryd.func30 (by kernel_rfl) rfl, fun _ _ _ _ _ h => low_any h, fun l hl h => Nat.lt_of_lt_of_le (lv_lt l h) (by rw [show (4294967296 : Nat) = 2 ^ 32 by decide]; exact Nat.pow_le_pow_right (by decide) (by omega))⟩
/-- what is taken behind a number that tells how much -/
def txB (num : List Nat → Nat) (rest : List Nat) : List Nat := tkB (num (tkB 4 rest)) (tkR 4 rest)
def txR (num : List Nat → Nat) (rest : List Nat) : List Nat := tkR (num (tkB 4 rest)) (tkR 4 rest)
def txS (num : List Nat → Nat) (rest : List Nat) : Bool := decide (rest.length < 4) || decide ((tkR 4 rest).length < num (tkB 4 rest))
def SzR (w : World) (b : Nat) (num : List Nat → Nat) (rest : List Nat) (sh off : Bool) (e : Ending) (w' : World) : Prop :=
  (∃ v, e = .returned v ∧ CSrc w' v (txB num rest) ∧ (0 < (txB num rest).length → ∀ ad n c, v = .slice (some ad) n c → ad.block < b)) ∧ Rd w' b (txR num rest) (sh || txS num rest) off ∧ Only (Just b) w w'
theorem sized_any {w : World} {b k : Nat} {num : List Nat → Nat} {rest : List Nat} {sh off : Bool} (hk : Reads k num) (h : Rd w b rest sh off) :
    Calls Tryd.prog 40 #[.pointer (some ⟨b, 0, none⟩), mv k b] w fun e w' => SzR w b num rest sh off e w' := by
  have hen := hk.enters
  have HD := Lib.hid (hk.does w b rest sh off h)
  have hN : num (tkB 4 rest) < 4294967296 := hk.lt _ (by rw [tkB_len]; split <;> omega) (tkB_lt 4 rest h.small.2)
  have HT : Hid (∀ u, Rd u b (tkR 4 rest) (sh || decide (rest.length < 4)) off → Calls Tryd.prog 51 #[.pointer (some ⟨b, 0, none⟩), iv (num (tkB 4 rest) : Nat)] u fun e w' => TkR u b (num (tkB 4 rest)) (tkR 4 rest) (sh || decide (rest.length < 4)) off e w') := Lib.hid (fun u hu => take_any hu (by omega))
  have HF : Hid (∀ u e w', Only (Just b) w u → TkR u b (num (tkB 4 rest)) (tkR 4 rest) (sh || decide (rest.length < 4)) off e w' → SzR w b num rest sh off e w') := Lib.hid (fun u e w' hu ht => ⟨ht.1, by unfold txS; rw [← Bool.or_assoc]; exact ht.2.1, hu.trans ht.2.2⟩)
  unfold NmR at HD
  generalize num (tkB 4 rest) = n at *
  generalize tkR 4 rest = r2 at *
  generalize (sh || decide (rest.length < 4)) = s2 at *
  generalize SzR w b num rest sh off = QQ at *
  clear hk h
  go_enter Tryd.func40, Tryd.ntmps40
  go_wp2_with fail
  refine (HD.out).mono ?_
  rintro e w1 ⟨rfl, hr, ho⟩
  have HT1 := Lib.hid (HT.out w1 hr)
  have HF1 := Lib.hid (fun e w' => HF.out w1 e w' ho)
  clear HT HF hr ho
  go_wp2_with fail
  refine (HT1.out).mono ?_
  rintro e w2 ht
  obtain ⟨v, rfl, _⟩ := ht.1
  have HF2 := Lib.hid (HF1.out _ _ ht)
  clear ht
  go_wp2
  exact HF2.out
def TxR (w : World) (b : Nat) (num : List Nat → Nat) (rest : List Nat) (sh off : Bool) (e : Ending) (w' : World) : Prop :=
  e = .returned (.string (strN (txB num rest))) ∧ Rd w' b (txR num rest) (sh || txS num rest) off ∧ Only (Just b) w w'
theorem text_any {w : World} {b k : Nat} {num : List Nat → Nat} {rest : List Nat} {sh off : Bool} (hk : Reads k num) (h : Rd w b rest sh off) :
    Calls Tryd.prog 29 #[.pointer (some ⟨b, 0, none⟩), mv k b] w fun e w' => TxR w b num rest sh off e w' := by
  have HD := Lib.hid (sized_any hk h)
  unfold SzR at HD
  unfold TxR
  have HCv : Hid (∀ u A n c, CSrc u (.slice A n c) (txB num rest) → (convert 25 9 (.slice A n c)).run Tryd.prog u = .ok (.string (strN (txB num rest))) u) := Lib.hid (fun u A n c h => conv_src h.src)
  generalize strN (txB num rest) = S at *
  generalize txB num rest = B at *
  generalize txR num rest = r2 at *
  generalize (sh || txS num rest) = s2 at *
  clear hk h
  go_enter Tryd.func29, Tryd.ntmps29
  go_wp2_with fail
  refine (HD.out).mono ?_
  rintro e w1 ⟨⟨v, rfl, hs, _⟩, hr, ho⟩
  have HR := Lib.hid hr
  have HO := Lib.hid ho
  obtain ⟨A, c, rfl, _⟩ := hs.form
  have hcv := HCv.out w1 _ _ _ hs
  clear HCv
  clear hs hr ho
  go_wp2
  go_ret
  exact ⟨rfl, HR.out, HO.out⟩
theorem comment_any {w : World} {b : Nat} {rest : List Nat} {sh off : Bool} (h : Rd w b rest sh off) :
    Calls Tryd.prog 32 #[.pointer (some ⟨b, 0, none⟩)] w fun e w' => TxR w b lv rest sh off e w' := by
  have HD := Lib.hid (text_any reads_low h)
  unfold TxR at *
  generalize txB lv rest = B at *
  generalize txR lv rest = r2 at *
  generalize (sh || txS lv rest) = s2 at *
  clear h
  go_enter Tryd.func32, Tryd.ntmps32
  go_wp2_with fail
  refine (HD.out).mono ?_
  rintro e w1 ⟨rfl, hr, ho⟩
  go_wp2
  go_ret
  exact ⟨rfl, hr, ho⟩
set_option maxHeartbeats 2000000 in
/-- what is wrong with how bytes were laid -/
theorem end_any {w : World} {b : Nat} {rest : List Nat} {sh off : Bool} (h : Rd w b rest sh off) :
    Calls Tryd.prog 34 #[.pointer (some ⟨b, 0, none⟩)] w fun e w' => e = .returned (iv (if sh = true then 11 else if off = true ∨ 0 < rest.length then 12 else 0)) ∧ Only Nix w w' := by
  obtain ⟨v, hb, hs, _⟩ := h.ex
  obtain ⟨A, c, rfl, _⟩ := hs.form
  have c0 := hb.cell 0
  have c1 := hb.cell 1
  have c2 := hb.cell 2
  simp only [List.getElem?_toArray, List.getElem?_cons_zero, List.getElem?_cons_succ] at c0 c1 c2
  clear h hb hs
  cases sh with
  | true =>
    go_enter Tryd.func34, Tryd.ntmps34
    go_wp2
    go_ret
    exact ⟨rfl, Only.refl _ _⟩
  | false =>
    cases off with
    | true =>
      go_enter Tryd.func34, Tryd.ntmps34
      go_wp2
      go_ret
      exact ⟨rfl, Only.refl _ _⟩
    | false =>
      generalize rest.length = n at *
      by_cases hn : 0 < n
      · have hni : (0 : Int) < (n : Int) := by omega
        go_enter Tryd.func34, Tryd.ntmps34
        go_wp2
        go_ret
        exact ⟨rfl, Only.refl _ _⟩
      · obtain rfl : n = 0 := by omega
        go_enter Tryd.func34, Tryd.ntmps34
        go_wp2
        go_ret
        exact ⟨rfl, Only.refl _ _⟩
end Go.Proofs.YtphpciglpnbblaaDoor
