/-
  Package subframe: writeHead, writeLinear.
-/
import Derived.Test.YteklfkpeaadinaaGreatDoorPCS8
import Derived.StillTailTactics
namespace Go.Proofs.YteklfkpeaadinaaGreatDoor.S
open Go.RowKit
open K (linV)
/-- a type that is no Writer's, nor of its bytes -/
def Own (t : TypeId) : Prop := 5 ≠ t ∧ t ≠ 76
instance (t : TypeId) : Decidable (Own t) := by unfold Own; exact inferInstance
/-- boxes stay but a Writer's -/
def KeepB (u u' : World) : Prop := ∀ B t cs, Own t → Box u B t cs → Box u' B t cs
theorem KeepB.refl (u : World) : KeepB u u := fun _ _ _ _ h => h
theorem KeepB.trans {a b c : World} (h : KeepB a b) (k : KeepB b c) : KeepB a c := fun B t cs ht hb => k B t cs ht (h B t cs ht hb)
theorem KeepB.nix {u u' : World} (h : Only Nix u u') : KeepB u u' := fun _ _ _ _ hb => hb.only h (fun e => e)
theorem _root_.Go.Proofs.YteklfkpeaadinaaGreatDoor.Wr.keepB {u u' : World} {b : Nat} {v : Value} {bs l : List Nat} (h : Wr u b v bs l) (ho : Only (WF b v) u u') : KeepB u u' := fun B t cs ht hb =>
  hb.only ho (fun e => by
    rcases e with e | e
    · exact (Box.type_ne hb h.box ht.2) e
    · exact owns_box h.own hb ht.1 e)
section
variable {w u : World} {b : Nat} {v : Value} {L : List Nat}
theorem put_to (h : WrTo w b v L u) (hl : L.length ≤ 281474976710656) (n x : Nat) (hn : n ≤ 48) (hx : x < 2 ^ n) :
    Calls Tryz.prog 68 #[.pointer (some ⟨b, 0, none⟩), iv n, iv x] u fun e u' => e = .returned (iv 0) ∧ WrTo w b v (L ++ bitsN n x) u' ∧ KeepB u u' := by
  obtain ⟨v1, bs1, h1, o1, m1⟩ := h
  refine (put_bits h1 hl n x hn hx).mono fun e u' ⟨he, hw⟩ => ⟨he, WrTo.of o1 m1 hw, ?_⟩
  obtain ⟨_, _, _, o2, _⟩ := hw
  exact Wr.keepB h1 o2
theorem sgn_to (h : WrTo w b v L u) (hl : L.length ≤ 281474976710656) (n : Nat) (x : Int) (hn : n ≤ 48) (hx : isS n x) :
    Calls Tryz.prog 36 #[.pointer (some ⟨b, 0, none⟩), iv n, iv x] u fun e u' => e = .returned (iv 0) ∧ WrTo w b v (L ++ bitsN n (x % 2 ^ n).toNat) u' ∧ KeepB u u' := by
  obtain ⟨v1, bs1, h1, o1, m1⟩ := h
  refine (sgn_bits h1 hl n x hn hx).mono fun e u' ⟨he, hw⟩ => ⟨he, WrTo.of o1 m1 hw, ?_⟩
  obtain ⟨_, _, _, o2, _⟩ := hw
  exact Wr.keepB h1 o2
theorem un_to (h : WrTo w b v L u) (hl : L.length ≤ 281474976710656) (n : Nat) (hn : n ≤ 65536) :
    Calls Tryz.prog 69 #[.pointer (some ⟨b, 0, none⟩), iv n] u fun e u' => e = .returned (iv 0) ∧ WrTo w b v (L ++ (List.replicate n 0 ++ [1])) u' ∧ KeepB u u' := by
  obtain ⟨v1, bs1, h1, o1, m1⟩ := h
  refine (un_bits h1 hl n hn).mono fun e u' ⟨he, hw⟩ => ⟨he, WrTo.of o1 m1 hw, ?_⟩
  obtain ⟨_, _, _, o2, _⟩ := hw
  exact Wr.keepB h1 o2
end
theorem _root_.Go.Proofs.YteklfkpeaadinaaGreatDoor.WrTo.nix {w u u' : World} {b : Nat} {v : Value} {L : List Nat} (h : WrTo w b v L u) (ho : Only Nix u u') : WrTo w b v L u' := by
  obtain ⟨v1, bs1, h1, o1, m1⟩ := h
  exact ⟨v1, bs1, h1.nix ho, o1.trans ho.nix, m1⟩
theorem _root_.Go.Proofs.YteklfkpeaadinaaGreatDoor.WrTo.only {w u : World} {b : Nat} {v : Value} {L : List Nat} (h : WrTo w b v L u) : Only (WF b v) w u := by
  obtain ⟨v1, bs1, h1, o1, m1⟩ := h
  exact o1
theorem _root_.Go.Proofs.YteklfkpeaadinaaGreatDoor.Wr.to {w : World} {b : Nat} {v : Value} {bs L : List Nat} (h : Wr w b v bs L) : WrTo w b v L w := ⟨v, bs, h, Only.refl _ _, Moves.refl _ _⟩
/-- what tells Wasted -/
def wasB (wd : Nat) : List Nat := if wd = 0 then bitsN 1 0 else bitsN 1 1 ++ (List.replicate (wd - 1) 0 ++ [1])
/-- what stands ahead of the samples -/
def headB (c wd : Nat) : List Nat := bitsN 1 0 ++ (bitsN 6 c ++ wasB wd)
set_option maxRecDepth 100000 in
set_option maxHeartbeats 2000000 in
theorem writeHead_any {w u : World} {b : Nat} {v : Value} {L : List Nat} (h : WrTo w b v L u) (hl : L.length ≤ 200000000000000) (hLd : ∀ u, Only (WF b v) w u → Laid u)
    (k : Int) (o wd : Nat) (lp ls : Int) (vc : Value) (m ro : Int) (vp vb : Value) (hk0 : 0 ≤ k) (hk4 : k < 4) (hc : kC k.toNat + o < 64) (hwd : wd ≤ 40) (_hvc : vc.cells = #[vc]) (_hvp : vp.cells = #[vp]) (_hvb : vb.cells = #[vb]) :
    Calls Tryz.prog 35 #[.pointer (some ⟨b, 0, none⟩), spV k o wd lp ls vc m ro vp vb] u fun e u' => e = .returned (.tuple #[]) ∧ WrTo w b v (L ++ headB (kC k.toNat + o).toNat wd) u' ∧ KeepB u u' := by
  have a0 := (Only.refl Nix u).alloc (.cells (spC k o wd lp ls vc m ro vp vb) 28)
  have B0 := Box.new u 28 (spC k o wd lp ls vc m ro vp vb)
  obtain ⟨Wa, hWa⟩ : ∃ Wa, u.alloc (.cells (spC k o wd lp ls vc m ro vp vb) 28) = Wa := ⟨_, rfl⟩
  rw [hWa] at a0 B0
  have H0 := Lib.hid (h.nix a0)
  have HK0 := Lib.hid (KeepB.nix a0)
  have HB := Lib.hid B0
  have HLd := Lib.hid hLd
  obtain ⟨kn, rfl⟩ := Int.eq_ofNat_of_zero_le hk0
  rw [Int.toNat_natCast] at hc ⊢
  have hK4 : kn < 4 := by omega
  have hKi : (kn : Int) < 4 := by omega
  have hkc : ∃ c : Nat, kC kn = (c : Int) ∧ c + o < 64 := by
    have : kn = 0 ∨ kn = 1 ∨ kn = 2 ∨ kn = 3 := by omega
    rcases this with rfl | rfl | rfl | rfl
    · exact ⟨0, rfl, by have : kC 0 = 0 := rfl; omega⟩
    · exact ⟨1, rfl, by have : kC 1 = 1 := rfl; omega⟩
    · exact ⟨8, rfl, by have : kC 2 = 8 := rfl; omega⟩
    · exact ⟨31, rfl, by have : kC 3 = 31 := rfl; omega⟩
  obtain ⟨c, hkc, hco⟩ := hkc
  have HT : Hid (∀ u, Only (WF b v) w u → u.cell? ⟨0, kn * 3, none⟩ = some (iv c)) := Lib.hid (fun u hu => by rw [← hkc]; exact (hLd u hu).code kn hK4)
  have hct : ((c : Int) + (o : Int)) = ((c + o : Nat) : Int) := by omega
  rw [hkc, hct, Int.toNat_natCast]
  obtain ⟨C, hC⟩ : ∃ C, c + o = C := ⟨_, rfl⟩
  rw [hC] at hct hco ⊢
  have hCi : (C : Int) < 64 := by omega
  have HL := Lib.hid hl
  have HP1 := Lib.hid (put_to H0.out (by omega) 1 0 (by decide) (by decide))
  clear h hl hLd hkc hc hC a0 B0 hk0 hk4
  go_enter Tryz.func35, Tryz.ntmps35
  go_wp2_with fail
  refine (HP1.out).mono ?_
  rintro e w1 ⟨rfl, h1, k1⟩
  have hB1 := k1 _ _ _ (by decide) HB.out
  have t1 := HT.out w1 h1.only
  have h2 := h1.nix ((Only.refl Nix w1).drew)
  have hwr : IntKind.i64.wrap (C : Int) = (C : Int) := K.w64k _ (by omega) (by omega)
  have d0 := hB1.cell 0
  have d1 := hB1.cell 1
  simp only [List.getElem?_toArray, List.getElem?_cons_zero, List.getElem?_cons_succ] at d0 d1
  have HB1 := Lib.hid (hB1.drew)
  have HK1 := Lib.hid ((HK0.out.trans k1).trans (KeepB.nix ((Only.refl Nix w1).drew)))
  have H2 := Lib.hid h2
  clear h1 k1 hB1 HP1 H0 HT h2
  go_wp2_with fail
  go_still_tail 9, (by kernel_rfl)
  change wpList _ _ _ _ _ w1.drew
  clear t1 d0 d1
  generalize w1.drew = w2 at *
  have HP2 := Lib.hid (put_to H2.out (by have := HL.out; rw [List.length_append, bitsN_len]; omega) 6 C (by decide) (by omega))
  go_wp2_with fail
  refine (HP2.out).mono ?_
  rintro e w3 ⟨rfl, h3, k3⟩
  have hB3 := k3 _ _ _ (by decide) HB1.out
  have d2 := hB3.cell 2
  simp only [List.getElem?_toArray, List.getElem?_cons_zero, List.getElem?_cons_succ] at d2
  have HK3 := Lib.hid (HK1.out.trans k3)
  have HB3 := Lib.hid hB3
  have H3 := Lib.hid h3
  clear h3 k3 hB3 HP2 H2
  by_cases hw : wd = 0
  · subst hw
    have HP4 := Lib.hid (put_to H3.out (by have := HL.out; rw [List.length_append, List.length_append, bitsN_len, bitsN_len]; omega) 1 0 (by decide) (by decide))
    go_wp2_with fail
    refine (HP4.out).mono ?_
    rintro e w4 ⟨rfl, h4, k4⟩
    have HF : Hid (WrTo w b v (L ++ headB C 0) w4 ∧ KeepB u w4) := Lib.hid ⟨by
      have e : L ++ headB C 0 = L ++ bitsN 1 0 ++ bitsN 6 C ++ bitsN 1 0 := by simp [headB, wasB, List.append_assoc]
      rw [e]; exact h4, HK3.out.trans k4⟩
    clear h4 k4 HP4
    go_wp2
    refine bodyPost_ret (results_none rfl _ _ _) rfl ?_
    exact ⟨rfl, HF.out⟩
  · have hwi : ¬ (wd : Int) = 0 := by omega
    have hwb : ((wd : Int) == 0) = false := by simpa using hwi
    have HP4 := Lib.hid (put_to H3.out (by have := HL.out; rw [List.length_append, List.length_append, bitsN_len, bitsN_len]; omega) 1 1 (by decide) (by decide))
    go_wp2_with fail
    refine (HP4.out).mono ?_
    rintro e w4 ⟨rfl, h4, k4⟩
    have hB4 := k4 _ _ _ (by decide) HB3.out
    have d2 := hB4.cell 2
    simp only [List.getElem?_toArray, List.getElem?_cons_zero, List.getElem?_cons_succ] at d2
    have hw1 : (wd : Int) - 1 = ((wd - 1 : Nat) : Int) := by omega
    have HP5 := Lib.hid (un_to h4 (by have := HL.out; rw [List.length_append, List.length_append, List.length_append, bitsN_len, bitsN_len, bitsN_len]; omega) (wd - 1) (by omega))
    have HK4 := Lib.hid (HK3.out.trans k4)
    have Hw0 := Lib.hid hw
    clear h4 k4 hB4 HP4 hw hwi
    obtain ⟨W, hW⟩ : ∃ W, wd - 1 = W := ⟨_, rfl⟩
    have hW40 : W ≤ 40 := by omega
    rw [hW] at HP5 hw1
    have HW := Lib.hid hW
    clear hW
    go_wp2_with fail
    refine (HP5.out).mono ?_
    rintro e w5 ⟨rfl, h5, k5⟩
    have HF : Hid (WrTo w b v (L ++ headB C wd) w5 ∧ KeepB u w5) := Lib.hid ⟨by
      have e : L ++ headB C wd = L ++ bitsN 1 0 ++ bitsN 6 C ++ bitsN 1 1 ++ (List.replicate W 0 ++ [1]) := by unfold headB wasB; rw [if_neg Hw0.out, HW.out]; simp [List.append_assoc]
      rw [e]; exact h5, HK4.out.trans k5⟩
    clear h5 k5 HP5
    go_wp2
    go_end0
    exact ⟨rfl, HF.out⟩
/-- a coefficient's bits, a sample's -/
def numB (n : Nat) (x : Int) : List Nat := bitsN n (x % 2 ^ n).toNat
theorem numB_len (n : Nat) (x : Int) : (numB n x).length = n := bitsN_len _ _
theorem numsB_len (n : Nat) (xs : List Int) : (xs.flatMap (numB n)).length = n * xs.length := by
  induction xs with
  | nil => simp
  | cons x xs ih => rw [List.flatMap_cons, List.length_append, numB_len, ih, List.length_cons, Nat.mul_succ, Nat.add_comm]
theorem numsB_take (n : Nat) (xs : List Int) (j : Nat) : ((xs.take j).flatMap (numB n)).length ≤ n * xs.length := by
  rw [numsB_len, List.length_take]
  exact Nat.mul_le_mul_left _ (Nat.min_le_right _ _)
/-- a prediction's -/
def linB (P : Nat) (S : Int) (cs : List Int) : List Nat := bitsN 4 (P - 1) ++ (numB 5 S ++ cs.flatMap (numB P))
theorem isS_isC (P : Nat) (h : 1 ≤ P) (c : Int) : K.isC P c ↔ isS P c := by
  unfold K.isC isS
  rw [if_neg (by omega), show ((P : Int) - 1).toNat = P - 1 by omega]
def LnP (w u : World) (b : Nat) (v : Value) (L : List Nat) (P : Nat) (cs : List Int) (s : Value) (wr : World) : Prop := ∃ j : Nat, j ≤ cs.length ∧ s = iv j ∧ WrTo w b v (L ++ (cs.take j).flatMap (numB P)) wr ∧ KeepB u wr
set_option maxHeartbeats 2000000 in
theorem writeLinear_any {w u : World} {b : Nat} {v : Value} {L : List Nat} (h : WrTo w b v L u) (hl : L.length ≤ 200000000000000) (P S : Int) (A : Option Addr) (n c : Nat) (cs : List Int) (hcs : ISrc w (.slice A n c) cs) (ha : Apart (.slice A n c) b v) (hok : K.okL P S cs) :
    Calls Tryz.prog 37 #[.pointer (some ⟨b, 0, none⟩), linV P S (.slice A n c)] u fun e u' => e = .returned (.tuple #[]) ∧ WrTo w b v (L ++ linB P.toNat S cs) u' ∧ KeepB u u' := by
  obtain ⟨⟨hc32, hP1, hP15, hS0, hS15⟩, hcc⟩ := hok
  obtain ⟨p, rfl⟩ := Int.eq_ofNat_of_zero_le (show 0 ≤ P by omega)
  rw [Int.toNat_natCast]
  have hcl := hcs.len
  have a0 := (Only.refl Nix u).alloc (.cells #[iv p, iv S, .slice A n c] 24)
  have B0 := Box.new u 24 #[iv p, iv S, .slice A n c]
  obtain ⟨Wa, hWa⟩ : ∃ Wa, u.alloc (.cells #[iv p, iv S, .slice A n c] 24) = Wa := ⟨_, rfl⟩
  rw [hWa] at a0 B0
  have hp1 : (p : Int) - 1 = ((p - 1 : Nat) : Int) := by omega
  have HP1 := Lib.hid (put_to (h.nix a0) (by omega) 4 (p - 1) (by decide) (by omega))
  have HL := Lib.hid hl
  have HB := Lib.hid B0
  have HK0 := Lib.hid (KeepB.nix a0)
  have HC := Lib.hid hcs
  have Hcl := Lib.hid hcl
  have HQ : Hid (∀ x ∈ cs, isS p x) := Lib.hid (fun x hx => (isS_isC p (by omega) x).1 (hcc x hx))
  have hn32 : n ≤ 32 := by omega
  have hp15 : p ≤ 15 := by omega
  have HS5 : Hid (isS 5 S) := Lib.hid (by unfold isS; rw [if_neg (by decide)]; have : (2 : Int) ^ (5 - 1) = 16 := by decide
                                          rw [this]; omega)
  have hlen : (cs.flatMap (numB p)).length ≤ 480 := by
    rw [numsB_len]
    exact Nat.le_trans (Nat.mul_le_mul hp15 (show cs.length ≤ 32 by omega)) (by decide)
  have HLn : Hid (∀ j, ((cs.take j).flatMap (numB p)).length ≤ 480) := Lib.hid (fun j => Nat.le_trans (numsB_take _ _ _) (Nat.le_trans (Nat.mul_le_mul hp15 (show cs.length ≤ 32 by omega)) (by decide)))
  obtain ⟨p1, hp1'⟩ : ∃ p1, p - 1 = p1 := ⟨_, rfl⟩
  rw [hp1'] at hp1 HP1
  have Hp1 := Lib.hid hp1'
  have d0 := B0.cell 0
  simp only [List.getElem?_toArray, List.getElem?_cons_zero] at d0
  clear h hl hcs hcl a0 B0 hcc hc32 hlen hP1 hP15 hS0 hS15 hp1'
  go_enter Tryz.func37, Tryz.ntmps37
  go_wp2_with fail
  refine (HP1.out).mono ?_
  rintro e w1 ⟨rfl, h1, k1⟩
  have hB1 := k1 _ _ _ (by decide) HB.out
  have d1 := hB1.cell 1
  simp only [List.getElem?_toArray, List.getElem?_cons_zero, List.getElem?_cons_succ] at d1
  have HP2 := Lib.hid (sgn_to h1 (by have := HL.out; rw [List.length_append, bitsN_len]; omega) 5 S (by decide) HS5.out)
  have HB1 := Lib.hid hB1
  have HK1 := Lib.hid (HK0.out.trans k1)
  clear h1 k1 hB1 HP1 d0
  go_wp2_with fail
  refine (HP2.out).mono ?_
  rintro e w2 ⟨rfl, h2, k2⟩
  have hB2 := k2 _ _ _ (by decide) HB1.out
  have d2 := hB2.cell 2
  simp only [List.getElem?_toArray, List.getElem?_cons_zero, List.getElem?_cons_succ] at d2
  have HBk := Lib.hid (fun u (hk : KeepB w2 u) => hk _ _ _ (by decide) hB2)
  have HK2 := Lib.hid (HK1.out.trans k2)
  have H2 := Lib.hid h2
  obtain ⟨L2, hL2⟩ : ∃ L2, L ++ bitsN 4 p1 ++ bitsN 5 (S % 2 ^ 5).toNat = L2 := ⟨_, rfl⟩
  rw [hL2] at H2
  have HL2 : Hid (L2.length ≤ 200000000000009) := Lib.hid (by rw [← hL2, List.length_append, List.length_append, bitsN_len, bitsN_len]; have := HL.out; omega)
  have HF : Hid (L ++ linB p S cs = L2 ++ cs.flatMap (numB p)) := Lib.hid (by rw [← hL2]; unfold linB; rw [Hp1.out]; simp [List.append_assoc, numB])
  clear h2 k2 hB2 HP2 d1 hL2
  go_wp2
  go_loopw [18] (fun s wr => LnP w w2 b v L2 p cs s wr) (fun s _ => n - (intOf s).toNat)
  case atStart => exact ⟨0, Nat.zero_le _, rfl, by simpa using H2.out, KeepB.refl _⟩
  case round =>
    obtain ⟨j, hj, rfl, hw, hk⟩ := hrel
    rw [← Hcl.out] at hj
    have hB := HBk.out wr hk
    have d0 := hB.cell 0
    simp only [List.getElem?_toArray, List.getElem?_cons_zero] at d0
    have HKr := Lib.hid hk
    have HWr := Lib.hid hw
    clear hB hk hw
    by_cases hlt : j < n
    · have hltx : j < cs.length := by rw [← Hcl.out]; exact hlt
      obtain ⟨ad, rfl, hxj⟩ := (HC.out.wr HWr.out.only ha).at_ hltx
      have hlt2 : (j : Int) < (n : Int) := by omega
      have hfit := HC.out.fits _ (List.getElem_mem hltx)
      have HE := Lib.hid (List.take_succ_eq_append_getElem hltx)
      have HS := Lib.hid (sgn_to HWr.out (by have := HL2.out; have := HLn.out j; rw [List.length_append]; omega) p cs[j] (by omega) (HQ.out _ (List.getElem_mem hltx)))
      generalize cs[j] = x at *
      clear hltx
      go_wp2_with fail
      refine (HS.out).mono ?_
      rintro e w4 ⟨rfl, h4, k4⟩
      have H4 := Lib.hid h4
      have K4 := Lib.hid k4
      clear h4 k4
      go_wp2
      go_roundw
      case rel =>
        refine ⟨j + 1, by rw [← Hcl.out]; omega, by go_num, ?_, HKr.out.trans K4.out⟩
        have := H4.out
        rw [List.append_assoc] at this
        rw [HE.out, List.flatMap_append, List.flatMap_singleton]
        exact this
      case measure => simp [intOf]; omega
    · have ht : cs.take j = cs := List.take_of_length_le (by rw [← Hcl.out]; omega)
      have HFF : Hid (WrTo w b v (L ++ linB p S cs) wr ∧ KeepB u wr) := Lib.hid ⟨by rw [HF.out]; have := HWr.out; rw [ht] at this; exact this, HK2.out.trans HKr.out⟩
      clear ht
      go_wp2
      go_end0
      exact ⟨rfl, HFF.out⟩
end Go.Proofs.YteklfkpeaadinaaGreatDoor.S
