/-
  readCoded, the two closures of readPart, fill.
-/
import Derived.Test.YteklfkpeaadinaaGreatDoorPBG06
namespace Go.Proofs.YteklfkpeaadinaaGreatDoor
open Go.RowKit

/-- one number read: it, its error, where the Reader stands then -/
abbrev Rx := Int × Int × Nat
/-- readCoded's answer -/
def rcX (bs : List Nat) (p a : Nat) : Rx :=
  if unaryE bs a ≠ 0 then (0, unaryE bs a, unaryA bs a) else
  if 65536 < unaryR bs a then (0, 10, unaryA bs a) else
  if takeE bs (unaryA bs a) (p : Int) ≠ 0 then (0, takeE bs (unaryA bs a) (p : Int), takeA bs (unaryA bs a) (p : Int)) else
  if isR (ufd ((unaryR bs a).toNat * 2 ^ p + numAt bs (unaryA bs a) p)) then (ufd ((unaryR bs a).toNat * 2 ^ p + numAt bs (unaryA bs a) p), 0, unaryA bs a + p) else (0, 10, unaryA bs a + p)
/-- Signed's answer -/
def sgX (bs : List Nat) (wd a : Nat) : Rx := (signR bs a wd, takeE bs a wd, takeA bs a wd)
/-- numbers read one behind the other: the first error, the numbers, the place -/
def fE (f : Nat → Rx) : Nat → Nat → Int
  | 0, _ => 0
  | n + 1, a => if (f a).2.1 ≠ 0 then (f a).2.1 else fE f n (f a).2.2
def fV (f : Nat → Rx) : Nat → Nat → List Int
  | 0, _ => []
  | n + 1, a => (f a).1 :: fV f n (f a).2.2
def fA (f : Nat → Rx) : Nat → Nat → Nat
  | 0, a => a
  | n + 1, a => fA f n (f a).2.2
theorem fV_len (f : Nat → Rx) : ∀ n a, (fV f n a).length = n
  | 0, _ => rfl
  | n + 1, a => by rw [fV, List.length_cons, fV_len f n]
theorem unaryR_nat (bs : List Nat) (a : Nat) : 0 ≤ unaryR bs a := by unfold unaryR; split <;> omega
set_option maxHeartbeats 2000000 in
theorem readCoded_any {w : World} {r : Nat} {v : Value} {bs : List Nat} {a : Nat} (h : Rd w r v bs a) (p : Nat) (hp : p ≤ 30) :
    Calls Tryz.prog 137 #[.pointer (some ⟨r, 0, none⟩), iv p] w fun e w' => e = two (rcX bs p a).1 (rcX bs p a).2.1 ∧ Rd w' r v bs (rcX bs p a).2.2 ∧ Only (Just r) w w' := by
  have Hu := Lib.hid (runary_any h)
  clear h
  by_cases h1 : unaryE bs a = 0
  · have hr0 := unaryR_nat bs a
    by_cases h2 : 65536 < unaryR bs a
    · have e1 : rcX bs p a = (0, 10, unaryA bs a) := by unfold rcX; rw [if_neg (by simpa using h1), if_pos h2]
      rw [e1]
      rw [h1] at Hu
      clear e1 h1
      generalize unaryR bs a = U at *
      generalize unaryA bs a = a1 at *
      go_enter Tryz.func137, Tryz.ntmps137
      go_wp2_with fail
      refine (Hu.out).mono ?_
      rintro e w1 ⟨rfl, hR, ho⟩
      go_wp2
      go_ret2
      exact ⟨rfl, hR, ho⟩
    · rw [h1] at Hu
      obtain ⟨u, hu⟩ := Int.eq_ofNat_of_zero_le hr0
      by_cases h3 : takeE bs (unaryA bs a) (p : Int) = 0
      · obtain ⟨mm, e0, hm48, hma, eR, eA⟩ := takeR_pos h3
        obtain rfl : p = mm := by omega
        have hnl := numAt_lt bs (unaryA bs a) p
        have e1 : rcX bs p a = if isR (ufd (u * 2 ^ p + numAt bs (unaryA bs a) p)) then (ufd (u * 2 ^ p + numAt bs (unaryA bs a) p), 0, unaryA bs a + p) else (0, 10, unaryA bs a + p) := by
          unfold rcX
          rw [if_neg (by simpa using h1), if_neg h2, if_neg (by simpa using h3), hu]
          rfl
        rw [hu] at Hu h2
        have Ht : Hid (∀ w1, Rd w1 r v bs (unaryA bs a) → Calls Tryz.prog 103 #[.pointer (some ⟨r, 0, none⟩), iv p] w1 fun e w' => e = two (numAt bs (unaryA bs a) p : Int) 0 ∧ Rd w' r v bs (unaryA bs a + p) ∧ Only (Just r) w1 w') := Lib.hid (fun w1 hw1 => take_ok hw1 p hm48 hma)
        have hup : u * 2 ^ p ≤ 70368744177664 := Nat.le_trans (Nat.mul_le_mul (show u ≤ 65536 by omega) (pow_le_of hp)) (by decide)
        have hnl2 : numAt bs (unaryA bs a) p < 1073741824 := Nat.lt_of_lt_of_le hnl (Nat.le_trans (pow_le_of hp) (by decide))
        have hsh : wrap64 ((u : Int) * 2 ^ p) = ((u * 2 ^ p : Nat) : Int) := by
          rw [pow_cast, ← Int.natCast_mul]
          exact w64 _ (by omega) (by omega)
        have hja : u * 2 ^ p < 2 ^ 62 := Nat.lt_of_le_of_lt hup (by decide)
        have hjb : numAt bs (unaryA bs a) p < 2 ^ 62 := Nat.lt_trans hnl2 (by decide)
        have hjc : u * 2 ^ p % 2 ^ p = 0 := Nat.mul_mod_left u (2 ^ p)
        have hjn := i64_join (u * 2 ^ p) (numAt bs (unaryA bs a) p) p hja hnl hjb hjc
        clear hja hjb hjc
        have HUn : ∀ w1, Hid (Calls Tryz.prog 142 #[iv (u * 2 ^ p + numAt bs (unaryA bs a) p : Nat)] w1 fun e w' => e = .returned (iv (ufd (u * 2 ^ p + numAt bs (unaryA bs a) p))) ∧ w1 = w') := fun w1 => Lib.hid (unfold_any w1 _ (Nat.lt_of_le_of_lt (Nat.add_le_add hup (Nat.le_of_lt hnl2)) (by decide)))
        clear h1 h3 eR eA hm48 hma hup hnl hnl2 e0
        generalize unaryA bs a = a1 at *
        obtain ⟨M, hM⟩ : ∃ M, u * 2 ^ p + numAt bs a1 p = M := ⟨_, rfl⟩
        rw [hM] at e1 hjn
        simp only [hM] at HUn
        clear hM
        obtain ⟨low, hlow⟩ : ∃ low, numAt bs a1 p = low := ⟨_, rfl⟩
        rw [hlow] at hjn
        simp only [hlow] at Ht
        clear hlow
        obtain ⟨UP, hUP⟩ : ∃ UP, u * 2 ^ p = UP := ⟨_, rfl⟩
        rw [hUP] at hsh hjn
        clear hUP
        obtain ⟨x, hx⟩ : ∃ x, ufd M = x := ⟨_, rfl⟩
        rw [hx] at e1
        simp only [hx] at HUn
        clear hx
        have Hsh := Lib.hid hsh
        have Hjn := Lib.hid hjn
        clear hsh hjn
        have h2' : ¬ (65536 < (u : Int)) := by omega
        have hsh := Hsh.out
        have hjn := Hjn.out
        by_cases h4 : isR x
        · rw [if_pos h4] at e1
          rw [e1]
          have HI : ∀ w1, Hid (Calls Tryz.prog 122 #[iv x] w1 fun e w' => e = .returned (.bool true) ∧ w1 = w') := fun w1 => Lib.hid (by have := isResidual_any w1 x; rw [decide_eq_true h4] at this; exact this)
          clear h4 e1
          go_enter Tryz.func137, Tryz.ntmps137
          go_wp2_with fail
          refine (Hu.out).mono ?_
          rintro e w1 ⟨rfl, hR, ho⟩
          go_wp2_with fail
          refine (Ht.out w1 hR).mono ?_
          rintro e w2 ⟨rfl, hR2, ho2⟩
          go_wp2_with fail
          refine ((HUn w2).out).mono ?_
          rintro e w3 ⟨rfl, rfl⟩
          go_wp2_with fail
          refine ((HI w2).out).mono ?_
          rintro e w3 ⟨rfl, rfl⟩
          go_wp2
          go_ret2
          exact ⟨rfl, hR2, ho.trans ho2⟩
        · rw [if_neg h4] at e1
          rw [e1]
          have HI : ∀ w1, Hid (Calls Tryz.prog 122 #[iv x] w1 fun e w' => e = .returned (.bool false) ∧ w1 = w') := fun w1 => Lib.hid (by have := isResidual_any w1 x; rw [decide_eq_false h4] at this; exact this)
          clear h4 e1
          go_enter Tryz.func137, Tryz.ntmps137
          go_wp2_with fail
          refine (Hu.out).mono ?_
          rintro e w1 ⟨rfl, hR, ho⟩
          go_wp2_with fail
          refine (Ht.out w1 hR).mono ?_
          rintro e w2 ⟨rfl, hR2, ho2⟩
          go_wp2_with fail
          refine ((HUn w2).out).mono ?_
          rintro e w3 ⟨rfl, rfl⟩
          go_wp2_with fail
          refine ((HI w2).out).mono ?_
          rintro e w3 ⟨rfl, rfl⟩
          go_wp2
          go_ret2
          exact ⟨rfl, hR2, ho.trans ho2⟩
      · have e1 : rcX bs p a = (0, takeE bs (unaryA bs a) (p : Int), takeA bs (unaryA bs a) (p : Int)) := by unfold rcX; rw [if_neg (by simpa using h1), if_neg h2, if_pos h3]
        rw [e1]
        rw [hu] at Hu h2
        have Ht : Hid (∀ w1, Rd w1 r v bs (unaryA bs a) → Calls Tryz.prog 103 #[.pointer (some ⟨r, 0, none⟩), iv p] w1 fun e w' => e = two (takeR bs (unaryA bs a) p) (takeE bs (unaryA bs a) p) ∧ Rd w' r v bs (takeA bs (unaryA bs a) p) ∧ Only (Just r) w1 w') := Lib.hid (fun w1 hw1 => take_any hw1 p)
        have h3b : (takeE bs (unaryA bs a) (p : Int) != 0) = true := by simpa using h3
        clear e1 h1
        generalize unaryA bs a = a1 at *
        generalize takeA bs a1 (p : Int) = a2 at *
        generalize takeE bs a1 (p : Int) = E at *
        generalize takeR bs a1 (p : Int) = R at *
        have h2' : ¬ (65536 < (u : Int)) := by omega
        go_enter Tryz.func137, Tryz.ntmps137
        go_wp2_with fail
        refine (Hu.out).mono ?_
        rintro e w1 ⟨rfl, hR, ho⟩
        go_wp2_with fail
        refine (Ht.out w1 hR).mono ?_
        rintro e w2 ⟨rfl, hR2, ho2⟩
        go_wp2
        go_ret2
        exact ⟨rfl, hR2, ho.trans ho2⟩
  · have e1 : rcX bs p a = (0, unaryE bs a, unaryA bs a) := by unfold rcX; rw [if_pos h1]
    rw [e1]
    have h1b : (unaryE bs a != 0) = true := by simpa using h1
    clear e1
    generalize unaryR bs a = U at *
    generalize unaryA bs a = a1 at *
    generalize unaryE bs a = E at *
    go_enter Tryz.func137, Tryz.ntmps137
    go_wp2_with fail
    refine (Hu.out).mono ?_
    rintro e w1 ⟨rfl, hR, ho⟩
    go_wp2
    go_ret2
    exact ⟨rfl, hR, ho⟩
set_option maxHeartbeats 1000000 in
theorem cloC_any {w : World} {r : Nat} {v : Value} {bs : List Nat} {a : Nat} (hR : Rd w r v bs a) (p cr cp : Nat) (hp : p ≤ 30) (hcr : Box w cr 40 #[.pointer (some ⟨r, 0, none⟩)]) (hcp : Box w cp 3 #[iv p]) :
    Calls Tryz.prog 136 #[.pointer (some ⟨cr, 0, none⟩), .pointer (some ⟨cp, 0, none⟩)] w fun e w' => e = two (rcX bs p a).1 (rcX bs p a).2.1 ∧ Rd w' r v bs (rcX bs p a).2.2 ∧ Only (Just r) w w' := by
  have HC := Lib.hid (readCoded_any (hR) p hp)
  have d0 := hcr.cell 0
  have d1 := hcp.cell 0
  simp only [List.getElem?_toArray, List.getElem?_cons_zero] at d0 d1
  clear hcr hcp hR
  skip
  generalize (rcX bs p a).1 = X1 at *
  generalize (rcX bs p a).2.1 = X2 at *
  generalize (rcX bs p a).2.2 = X3 at *
  go_enter Tryz.func136, Tryz.ntmps136
  go_wp2_with fail
  refine (HC.out).mono ?_
  rintro e w1 ⟨rfl, hR, ho⟩
  go_wp2
  go_ret2
  exact ⟨rfl, hR, ho⟩
set_option maxHeartbeats 1000000 in
theorem cloS_any {w : World} {r : Nat} {v : Value} {bs : List Nat} {a : Nat} (hR : Rd w r v bs a) (p cr cp : Nat) (_ : p ≤ 31) (hcr : Box w cr 40 #[.pointer (some ⟨r, 0, none⟩)]) (hcp : Box w cp 3 #[iv p]) :
    Calls Tryz.prog 138 #[.pointer (some ⟨cr, 0, none⟩), .pointer (some ⟨cp, 0, none⟩)] w fun e w' => e = two (sgX bs p a).1 (sgX bs p a).2.1 ∧ Rd w' r v bs (sgX bs p a).2.2 ∧ Only (Just r) w w' := by
  have HC := Lib.hid (signed_any hR (p : Int))
  have d0 := hcr.cell 0
  have d1 := hcp.cell 0
  simp only [List.getElem?_toArray, List.getElem?_cons_zero] at d0 d1
  clear hcr hcp hR
  unfold sgX
  dsimp only
  generalize signR bs a (p : Int) = X1 at *
  generalize takeE bs a (p : Int) = X2 at *
  generalize takeA bs a (p : Int) = X3 at *
  go_enter Tryz.func138, Tryz.ntmps138
  go_wp2_with fail
  refine (HC.out).mono ?_
  rintro e w1 ⟨rfl, hR, ho⟩
  go_wp2
  go_ret2
  exact ⟨rfl, hR, ho⟩
/-- numbers laid over others -/
def putAt (xs : List Int) (off : Nat) (ys : List Int) : List Int := xs.take off ++ ys ++ xs.drop (off + ys.length)
theorem putAt_nil (xs : List Int) (off : Nat) : putAt xs off [] = xs := by simp [putAt]
theorem putAt_len (xs : List Int) (off : Nat) (ys : List Int) (h : off + ys.length ≤ xs.length) : (putAt xs off ys).length = xs.length := by simp [putAt]; omega
theorem putAt_step (xs : List Int) (off : Nat) (ys : List Int) (x : Int) (h : off + ys.length < xs.length) : (putAt xs off ys).set (off + ys.length) x = putAt xs off (ys ++ [x]) := by
  have h1 : xs.drop (off + ys.length) = xs[off + ys.length] :: xs.drop (off + ys.length + 1) := List.drop_eq_getElem_cons h
  unfold putAt
  have hl : (xs.take off ++ ys).length = off + ys.length := by simp; omega
  rw [h1, List.set_append_right _ _ (by omega), hl, Nat.sub_self, List.set_cons_zero]
  simp [Nat.add_assoc]
def RG (r g k : Nat) : Prop := k = r ∨ k = g
def FillP (w : World) (r : Nat) (v : Value) (bs : List Nat) (g : Nat) (xs : List Int) (off n : Nat) (f : Nat → Rx) (a : Nat) (s10 : Value) (wr : World) : Prop :=
  ∃ (j aj : Nat) (ys : List Int), j ≤ n ∧ s10 = iv j ∧ ys.length = j ∧ fE f n a = fE f (n - j) aj ∧ fV f n a = ys ++ fV f (n - j) aj ∧ fA f n a = fA f (n - j) aj ∧ Rd wr r v bs aj ∧ Box wr g 3 ((putAt xs off ys).map iv).toArray ∧ Only (RG r g) w wr
set_option maxHeartbeats 2000000 in
theorem fillC_any {w : World} {r : Nat} {v : Value} {bs : List Nat} {a : Nat} (hR : Rd w r v bs a) (p cr cp g off n c : Nat) (hp : p ≤ 30) (hcr : Box w cr 40 #[.pointer (some ⟨r, 0, none⟩)]) (hcp : Box w cp 3 #[iv p])
    (xs : List Int) (hg : Box w g 3 (xs.map iv).toArray) (hgc : g ≠ cp) (hn : off + n ≤ xs.length) (hn6 : n ≤ 65535) :
    Calls Tryz.prog 135 #[.slice (some ⟨g, off, none⟩) n c, .func (.func 136) #[] #[.pointer (some ⟨cr, 0, none⟩), .pointer (some ⟨cp, 0, none⟩)]] w fun e w' =>
      e = .returned (iv (fE (rcX bs p) n a)) ∧ ∃ a' xs', xs'.length = xs.length ∧ Rd w' r v bs a' ∧ Box w' g 3 (xs'.map iv).toArray ∧ Only (RG r g) w w' ∧ (fE (rcX bs p) n a = 0 → a' = fA (rcX bs p) n a ∧ xs' = putAt xs off (fV (rcX bs p) n a)) := by
  have hgr : g ≠ r := fun e => by subst e; exact Box.type_ne hg hR.box (by decide) rfl
  have hgcr : cr ≠ g := fun e => by subst e; exact Box.type_ne hg hcr (by decide) rfl
  have hrcr : cr ≠ r := fun e => by subst e; exact Box.type_ne hcr hR.box (by decide) rfl
  have hrcp : cp ≠ r := fun e => by subst e; exact Box.type_ne hcp hR.box (by decide) rfl
  have hvg : v.ownBlock ≠ some g := owns_box hR.own hg (by decide)
  have HR := Lib.hid hR
  have HG := Lib.hid hg
  have Hcr := Lib.hid hcr
  have Hcp := Lib.hid hcp
  clear hR hg hcr hcp
  go_enter Tryz.func135, Tryz.ntmps135
  go_wp2
  go_loopw [10] (fun s10 wr => FillP w r v bs g xs off n (rcX bs p) a s10 wr) (fun s10 _ => n - (intOf s10).toNat)
  case atStart => exact ⟨0, a, [], Nat.zero_le _, rfl, rfl, rfl, rfl, rfl, HR.out, by rw [putAt_nil]; exact HG.out, Only.refl _ _⟩
  case round =>
    obtain ⟨j, aj, ys, hj, rfl, hys, k1, k2, k3, hRj, hBj, hOj⟩ := hrel
    by_cases hlt : j < n
    · obtain ⟨d, hd⟩ : ∃ d, n - j = d + 1 := ⟨n - j - 1, by omega⟩
      have hd2 : n - (j + 1) = d := by omega
      rw [hd] at k1 k2 k3
      have HC := Lib.hid (cloC_any hRj p cr cp hp (Hcr.out.only hOj (by rintro (e | e); exact hrcr e; exact hgcr e)) (Hcp.out.only hOj (by rintro (e | e); exact hrcp e; exact hgc e.symm)))
      have hlt2 : (j : Int) < (n : Int) := by omega
      have HS := Lib.hid (putAt_step xs off ys ((rcX bs p) aj).1 (by omega))
      have hcell : ∀ u, Only (Just r) wr u → Hid (Box u g 3 ((putAt xs off ys).map iv).toArray) := fun u hu => Lib.hid (hBj.only hu (fun e => hgr e))
      have Hpl := Lib.hid (putAt_len xs off ys (by omega))
      have Hk : Hid (fE (rcX bs p) n a = fE (rcX bs p) (d + 1) aj ∧ fV (rcX bs p) n a = ys ++ fV (rcX bs p) (d + 1) aj ∧ fA (rcX bs p) n a = fA (rcX bs p) (d + 1) aj) := Lib.hid ⟨k1, k2, k3⟩
      have HOj := Lib.hid hOj
      have Hys := Lib.hid hys
      clear k1 k2 k3 hOj hys hRj hBj hd
      obtain ⟨⟨x, E, aq⟩, hX⟩ : ∃ t : Rx, (rcX bs p) aj = t := ⟨_, rfl⟩
      have HX := Lib.hid hX
      rw [hX] at HC HS
      dsimp only at HC HS
      clear hX
      by_cases hE : E = 0
      · subst hE
        go_wp2_with fail
        refine (HC.out).mono ?_
        rintro e w1 ⟨rfl, hR1, ho1⟩
        have Hb1 := hcell w1 ho1
        have hc1 : ∃ z, w1.cell? ⟨g, off + j, none⟩ = some (iv z) := by
          have hlz : off + j < (putAt xs off ys).length := by rw [Hpl.out]; omega
          refine ⟨(putAt xs off ys)[off + j], ?_⟩
          rw [Hb1.out.cell]
          simp [hlz]
        obtain ⟨z, hc1⟩ := hc1
        have hf1 := Hb1.out.frozen (off + j)
        clear hcell
        go_wp2
        go_roundw
        case rel =>
          refine ⟨j + 1, aq, ys ++ [x], by omega, by go_num, by rw [List.length_append, Hys.out]; rfl, ?_, ?_, ?_, ?_, ?_, ?_⟩
          · rw [Hk.out.1, fE, HX.out, if_neg (by simp), hd2]
          · rw [Hk.out.2.1, fV, HX.out, hd2, List.append_assoc]; rfl
          · rw [Hk.out.2.2, fA, HX.out, hd2]
          · exact (hR1.keep (F := Just g) ((Only.refl (Just g) w1).setCell (p := ⟨g, off + j, none⟩) (.inl rfl) _) (fun e => hgr e.symm) (fun q hq e => hvg (by rw [hq]; exact congrArg some e)))
          · have := Hb1.out.put (off + j) (iv x)
            rw [← HS.out, Hys.out]
            rw [List.setIfInBounds_toArray] at this
            rw [List.map_set]
            exact this
          · exact ((HOj.out.then ho1 (fun i e => .inl (.inl e))).setCell (p := ⟨g, off + j, none⟩) (.inl (.inr rfl)) _)
        case measure => simp [intOf]; omega
      · have hE2 : (E != 0) = true := by simpa using hE
        go_wp2_with fail
        refine (HC.out).mono ?_
        rintro e w1 ⟨rfl, hR1, ho1⟩
        go_wp2
        go_ret
        have hfe : fE (rcX bs p) n a = E := by rw [Hk.out.1, fE, HX.out, if_pos hE]
        exact ⟨by rw [hfe]; rfl, aq, putAt xs off ys, Hpl.out, hR1, (hcell w1 ho1).out, HOj.out.then ho1 (fun i e => .inl (.inl e)), fun e => absurd (hfe.symm.trans e) hE⟩
    · obtain rfl : j = n := by omega
      have hlt2 : decide (j < j) = false := by simp
      rw [Nat.sub_self] at k1 k2 k3
      have Hk : Hid (fE (rcX bs p) j a = 0 ∧ fV (rcX bs p) j a = ys ∧ fA (rcX bs p) j a = aj) := Lib.hid ⟨k1, by rw [k2, fV, List.append_nil], k3⟩
      have Hpl := Lib.hid (putAt_len xs off ys (by omega))
      clear k1 k2 k3
      go_wp2
      go_ret
      exact ⟨by rw [Hk.out.1]; rfl, aj, putAt xs off ys, Hpl.out, hRj, hBj, hOj, fun _ => ⟨Hk.out.2.2.symm, by rw [Hk.out.2.1]⟩⟩
set_option maxHeartbeats 2000000 in
theorem fillS_any {w : World} {r : Nat} {v : Value} {bs : List Nat} {a : Nat} (hR : Rd w r v bs a) (p cr cp g off n c : Nat) (hp : p ≤ 31) (hcr : Box w cr 40 #[.pointer (some ⟨r, 0, none⟩)]) (hcp : Box w cp 3 #[iv p])
    (xs : List Int) (hg : Box w g 3 (xs.map iv).toArray) (hgc : g ≠ cp) (hn : off + n ≤ xs.length) (hn6 : n ≤ 65535) :
    Calls Tryz.prog 135 #[.slice (some ⟨g, off, none⟩) n c, .func (.func 138) #[] #[.pointer (some ⟨cr, 0, none⟩), .pointer (some ⟨cp, 0, none⟩)]] w fun e w' =>
      e = .returned (iv (fE (sgX bs p) n a)) ∧ ∃ a' xs', xs'.length = xs.length ∧ Rd w' r v bs a' ∧ Box w' g 3 (xs'.map iv).toArray ∧ Only (RG r g) w w' ∧ (fE (sgX bs p) n a = 0 → a' = fA (sgX bs p) n a ∧ xs' = putAt xs off (fV (sgX bs p) n a)) := by
  have hgr : g ≠ r := fun e => by subst e; exact Box.type_ne hg hR.box (by decide) rfl
  have hgcr : cr ≠ g := fun e => by subst e; exact Box.type_ne hg hcr (by decide) rfl
  have hrcr : cr ≠ r := fun e => by subst e; exact Box.type_ne hcr hR.box (by decide) rfl
  have hrcp : cp ≠ r := fun e => by subst e; exact Box.type_ne hcp hR.box (by decide) rfl
  have hvg : v.ownBlock ≠ some g := owns_box hR.own hg (by decide)
  have HR := Lib.hid hR
  have HG := Lib.hid hg
  have Hcr := Lib.hid hcr
  have Hcp := Lib.hid hcp
  clear hR hg hcr hcp
  go_enter Tryz.func135, Tryz.ntmps135
  go_wp2
  go_loopw [10] (fun s10 wr => FillP w r v bs g xs off n (sgX bs p) a s10 wr) (fun s10 _ => n - (intOf s10).toNat)
  case atStart => exact ⟨0, a, [], Nat.zero_le _, rfl, rfl, rfl, rfl, rfl, HR.out, by rw [putAt_nil]; exact HG.out, Only.refl _ _⟩
  case round =>
    obtain ⟨j, aj, ys, hj, rfl, hys, k1, k2, k3, hRj, hBj, hOj⟩ := hrel
    by_cases hlt : j < n
    · obtain ⟨d, hd⟩ : ∃ d, n - j = d + 1 := ⟨n - j - 1, by omega⟩
      have hd2 : n - (j + 1) = d := by omega
      rw [hd] at k1 k2 k3
      have HC := Lib.hid (cloS_any hRj p cr cp hp (Hcr.out.only hOj (by rintro (e | e); exact hrcr e; exact hgcr e)) (Hcp.out.only hOj (by rintro (e | e); exact hrcp e; exact hgc e.symm)))
      have hlt2 : (j : Int) < (n : Int) := by omega
      have HS := Lib.hid (putAt_step xs off ys ((sgX bs p) aj).1 (by omega))
      have hcell : ∀ u, Only (Just r) wr u → Hid (Box u g 3 ((putAt xs off ys).map iv).toArray) := fun u hu => Lib.hid (hBj.only hu (fun e => hgr e))
      have Hpl := Lib.hid (putAt_len xs off ys (by omega))
      have Hk : Hid (fE (sgX bs p) n a = fE (sgX bs p) (d + 1) aj ∧ fV (sgX bs p) n a = ys ++ fV (sgX bs p) (d + 1) aj ∧ fA (sgX bs p) n a = fA (sgX bs p) (d + 1) aj) := Lib.hid ⟨k1, k2, k3⟩
      have HOj := Lib.hid hOj
      have Hys := Lib.hid hys
      clear k1 k2 k3 hOj hys hRj hBj hd
      obtain ⟨⟨x, E, aq⟩, hX⟩ : ∃ t : Rx, (sgX bs p) aj = t := ⟨_, rfl⟩
      have HX := Lib.hid hX
      rw [hX] at HC HS
      dsimp only at HC HS
      clear hX
      by_cases hE : E = 0
      · subst hE
        go_wp2_with fail
        refine (HC.out).mono ?_
        rintro e w1 ⟨rfl, hR1, ho1⟩
        have Hb1 := hcell w1 ho1
        have hc1 : ∃ z, w1.cell? ⟨g, off + j, none⟩ = some (iv z) := by
          have hlz : off + j < (putAt xs off ys).length := by rw [Hpl.out]; omega
          refine ⟨(putAt xs off ys)[off + j], ?_⟩
          rw [Hb1.out.cell]
          simp [hlz]
        obtain ⟨z, hc1⟩ := hc1
        have hf1 := Hb1.out.frozen (off + j)
        clear hcell
        go_wp2
        go_roundw
        case rel =>
          refine ⟨j + 1, aq, ys ++ [x], by omega, by go_num, by rw [List.length_append, Hys.out]; rfl, ?_, ?_, ?_, ?_, ?_, ?_⟩
          · rw [Hk.out.1, fE, HX.out, if_neg (by simp), hd2]
          · rw [Hk.out.2.1, fV, HX.out, hd2, List.append_assoc]; rfl
          · rw [Hk.out.2.2, fA, HX.out, hd2]
          · exact (hR1.keep (F := Just g) ((Only.refl (Just g) w1).setCell (p := ⟨g, off + j, none⟩) (.inl rfl) _) (fun e => hgr e.symm) (fun q hq e => hvg (by rw [hq]; exact congrArg some e)))
          · have := Hb1.out.put (off + j) (iv x)
            rw [← HS.out, Hys.out]
            rw [List.setIfInBounds_toArray] at this
            rw [List.map_set]
            exact this
          · exact ((HOj.out.then ho1 (fun i e => .inl (.inl e))).setCell (p := ⟨g, off + j, none⟩) (.inl (.inr rfl)) _)
        case measure => simp [intOf]; omega
      · have hE2 : (E != 0) = true := by simpa using hE
        go_wp2_with fail
        refine (HC.out).mono ?_
        rintro e w1 ⟨rfl, hR1, ho1⟩
        go_wp2
        go_ret
        have hfe : fE (sgX bs p) n a = E := by rw [Hk.out.1, fE, HX.out, if_pos hE]
        exact ⟨by rw [hfe]; rfl, aq, putAt xs off ys, Hpl.out, hR1, (hcell w1 ho1).out, HOj.out.then ho1 (fun i e => .inl (.inl e)), fun e => absurd (hfe.symm.trans e) hE⟩
    · obtain rfl : j = n := by omega
      have hlt2 : decide (j < j) = false := by simp
      rw [Nat.sub_self] at k1 k2 k3
      have Hk : Hid (fE (sgX bs p) j a = 0 ∧ fV (sgX bs p) j a = ys ∧ fA (sgX bs p) j a = aj) := Lib.hid ⟨k1, by rw [k2, fV, List.append_nil], k3⟩
      have Hpl := Lib.hid (putAt_len xs off ys (by omega))
      clear k1 k2 k3
      go_wp2
      go_ret
      exact ⟨by rw [Hk.out.1]; rfl, aj, putAt xs off ys, Hpl.out, hRj, hBj, hOj, fun _ => ⟨Hk.out.2.2.symm, by rw [Hk.out.2.1]⟩⟩
end Go.Proofs.YteklfkpeaadinaaGreatDoor
namespace Go.Proofs.YteklfkpeaadinaaGreatDoor
open Go.RowKit

/-- what readPart answers where there is no error -/
def RPok (bs : List Nat) (m n a : Nat) (p wd : Int) (ys : List Int) (a' : Nat) : Prop :=
  takeE bs a ((4 + m : Nat) : Int) = 0 ∧
  ((numAt bs a (4 + m) ≠ 15 + 16 * m ∧ p = (numAt bs a (4 + m) : Int) ∧ wd = 0 ∧ fE (rcX bs (numAt bs a (4 + m))) n (a + (4 + m)) = 0 ∧ ys = fV (rcX bs (numAt bs a (4 + m))) n (a + (4 + m)) ∧ a' = fA (rcX bs (numAt bs a (4 + m))) n (a + (4 + m))) ∨
   (numAt bs a (4 + m) = 15 + 16 * m ∧ takeE bs (a + (4 + m)) 5 = 0 ∧ p = -1 ∧ wd = (numAt bs (a + (4 + m)) 5 : Int) ∧ fE (sgX bs (numAt bs (a + (4 + m)) 5)) n (a + (4 + m) + 5) = 0 ∧
    ys = fV (sgX bs (numAt bs (a + (4 + m)) 5)) n (a + (4 + m) + 5) ∧ a' = fA (sgX bs (numAt bs (a + (4 + m)) 5)) n (a + (4 + m) + 5)))
theorem takeE_cases (bs : List Nat) (a n : Nat) (hn : n ≤ 48) : takeE bs a (n : Int) = 0 ∨ takeE bs a (n : Int) = 11 := by
  unfold takeE
  rw [if_neg (by omega)]
  split
  · exact .inr rfl
  · exact .inl rfl
theorem rcX_err (bs : List Nat) (p a : Nat) (hp : p ≤ 48) : (rcX bs p a).2.1 = 0 ∨ (rcX bs p a).2.1 = 10 ∨ (rcX bs p a).2.1 = 11 := by
  unfold rcX
  split
  · rename_i h
    have : unaryE bs a = 11 := by unfold unaryE at h ⊢; split <;> simp_all
    exact .inr (.inr this)
  · split
    · exact .inr (.inl rfl)
    · split
      · rename_i h
        rcases takeE_cases bs (unaryA bs a) p hp with h1 | h1
        · exact absurd h1 h
        · exact .inr (.inr h1)
      · split
        · exact .inl rfl
        · exact .inr (.inl rfl)
theorem fE_err (f : Nat → Rx) (h : ∀ a, (f a).2.1 = 0 ∨ (f a).2.1 = 10 ∨ (f a).2.1 = 11) : ∀ n a, fE f n a = 0 ∨ fE f n a = 10 ∨ fE f n a = 11
  | 0, _ => .inl rfl
  | n + 1, a => by
    rw [fE]
    split
    · exact h a
    · exact fE_err f h n _
/-- one thing behind the other: what has been done so far -/
structure St2 (i j : Nat) (Q0 Q1 Q2 : World → Prop) (L : Nat → Bool) (u : World) : Prop where
  q0 : L i = false → Q0 u
  q1 : L i = true → L j = false → Q1 u
  q2 : L j = true → Q2 u
section
variable {i j k x : Nat} {Q0 Q1 Q2 Q3 : World → Prop} {L : Nat → Bool} {u u' : World}
theorem andOne_other (h : i ≠ x) : andOne L x i = L i := by unfold andOne; rw [if_neg h]
theorem andOne_self : andOne L x x = true := by unfold andOne; rw [if_pos rfl]
theorem St2.same (h : St2 i j Q0 Q1 Q2 L u) (hi : i ≠ x) (hj : j ≠ x) : St2 i j Q0 Q1 Q2 (andOne L x) u :=
  ⟨fun e => h.q0 (by rwa [andOne_other hi] at e), fun e1 e2 => h.q1 (by rwa [andOne_other hi] at e1) (by rwa [andOne_other hj] at e2), fun e => h.q2 (by rwa [andOne_other hj] at e)⟩
theorem St2.one (hj : L j = false) (hij : j ≠ i) (h : Q1 u') : St2 i j Q0 Q1 Q2 (andOne L i) u' :=
  ⟨(fun e => by rw [andOne_self] at e; cases e), fun _ _ => h, (fun e => by rw [andOne_other hij, hj] at e; cases e)⟩
theorem St2.two (hi : L i = true) (hij : i ≠ j) (h : Q2 u') : St2 i j Q0 Q1 Q2 (andOne L j) u' :=
  ⟨(fun e => by rw [andOne_other hij, hi] at e; cases e), (fun _ e => by rw [andOne_self] at e; cases e), fun _ => h⟩
structure St3 (i j k : Nat) (Q0 Q1 Q2 Q3 : World → Prop) (L : Nat → Bool) (u : World) : Prop where
  q0 : L i = false → Q0 u
  q1 : L i = true → L j = false → Q1 u
  q2 : L j = true → L k = false → Q2 u
  q3 : L k = true → Q3 u
theorem St3.same (h : St3 i j k Q0 Q1 Q2 Q3 L u) (hi : i ≠ x) (hj : j ≠ x) (hk : k ≠ x) : St3 i j k Q0 Q1 Q2 Q3 (andOne L x) u :=
  ⟨fun e => h.q0 (by rwa [andOne_other hi] at e), fun e1 e2 => h.q1 (by rwa [andOne_other hi] at e1) (by rwa [andOne_other hj] at e2),
   fun e1 e2 => h.q2 (by rwa [andOne_other hj] at e1) (by rwa [andOne_other hk] at e2), fun e => h.q3 (by rwa [andOne_other hk] at e)⟩
theorem St3.one (hj : L j = false) (hk : L k = false) (hij : j ≠ i) (hik : k ≠ i) (h : Q1 u') : St3 i j k Q0 Q1 Q2 Q3 (andOne L i) u' :=
  ⟨(fun e => by rw [andOne_self] at e; cases e), fun _ _ => h, (fun e => by rw [andOne_other hij, hj] at e; cases e), (fun e => by rw [andOne_other hik, hk] at e; cases e)⟩
theorem St3.two (hi : L i = true) (hk : L k = false) (hij : i ≠ j) (hjk : k ≠ j) (h : Q2 u') : St3 i j k Q0 Q1 Q2 Q3 (andOne L j) u' :=
  ⟨(fun e => by rw [andOne_other hij, hi] at e; cases e), (fun _ e => by rw [andOne_self] at e; cases e), fun _ _ => h, (fun e => by rw [andOne_other hjk, hk] at e; cases e)⟩
theorem St3.three (hi : L i = true) (hj : L j = true) (hik : i ≠ k) (hjk : j ≠ k) (h : Q3 u') : St3 i j k Q0 Q1 Q2 Q3 (andOne L k) u' :=
  ⟨(fun e => by rw [andOne_other hik, hi] at e; cases e), (fun _ e => by rw [andOne_other hjk, hj] at e; cases e), (fun _ e => by rw [andOne_self] at e; cases e), fun _ => h⟩
end
/-- what readPart answers: a parameter, Bits, an error -/
def rpT (bs : List Nat) (m n a : Nat) : Int × Int × Int :=
  if takeE bs a ((4 + m : Nat) : Int) ≠ 0 then (0, 0, 11) else
  if numAt bs a (4 + m) ≠ 15 + 16 * m then ((numAt bs a (4 + m) : Int), 0, fE (rcX bs (numAt bs a (4 + m))) n (a + (4 + m))) else
  if takeE bs (a + (4 + m)) 5 ≠ 0 then (0, 0, 11) else (-1, (numAt bs (a + (4 + m)) 5 : Int), fE (sgX bs (numAt bs (a + (4 + m)) 5)) n (a + (4 + m) + 5))
/-- what readPart leaves -/
def RPost (w : World) (r : Nat) (v : Value) (bs : List Nat) (m n a g off : Nat) (xs : List Int) (e : Ending) (w' : World) : Prop :=
  ∃ (p wd E : Int) (a' : Nat) (xs' : List Int), e = .returned (.tuple #[iv p, iv wd, iv E]) ∧ xs'.length = xs.length ∧ Rd w' r v bs a' ∧ Box w' g 3 (xs'.map iv).toArray ∧ Only (RG r g) w w' ∧
    ((E = 0 ∧ ∃ ys, RPok bs m n a p wd ys a' ∧ xs' = putAt xs off ys) ∨ ((E = 10 ∨ E = 11) ∧ ∀ p wd ys a', ¬ RPok bs m n a p wd ys a')) ∧ (p, wd, E) = rpT bs m n a
/-- what fill leaves -/
def FPd (W : World) (r : Nat) (v : Value) (bs : List Nat) (g : Nat) (xs : List Int) (off n : Nat) (f : Nat → Rx) (a : Nat) (u : World) : Prop :=
  ∃ a' xs', xs'.length = xs.length ∧ Rd u r v bs a' ∧ Box u g 3 (xs'.map iv).toArray ∧ Only (RG r g) W u ∧ (fE f n a = 0 → a' = fA f n a ∧ xs' = putAt xs off (fV f n a))
theorem sgX_err (bs : List Nat) (p a : Nat) (hp : p ≤ 48) : (sgX bs p a).2.1 = 0 ∨ (sgX bs p a).2.1 = 10 ∨ (sgX bs p a).2.1 = 11 := by
  rcases takeE_cases bs a p hp with h | h
  · exact .inl h
  · exact .inr (.inr h)
theorem part_end {w u1 : World} {r : Nat} {v : Value} {bs : List Nat} {a' g : Nat} {xs' : List Int} {z6 z7 : Value} (x6 x7 : Int) (hR : Rd u1 r v bs a') (hG : Box u1 g 3 (xs'.map iv).toArray)
    (b6 : Box u1 (w.heap.size + 1) 3 #[z6]) (b7 : Box u1 (w.heap.size + 1 + 1) 3 #[z7]) (ho : Only (RG r g) w u1) (hr : r < w.heap.size) (hg : g < w.heap.size) :
    Rd ((u1.setCell ⟨w.heap.size + 1, 0, none⟩ (iv x6)).setCell ⟨w.heap.size + 1 + 1, 0, none⟩ (iv x7)) r v bs a' ∧ Box ((u1.setCell ⟨w.heap.size + 1, 0, none⟩ (iv x6)).setCell ⟨w.heap.size + 1 + 1, 0, none⟩ (iv x7)) g 3 (xs'.map iv).toArray ∧
    Only (RG r g) w ((u1.setCell ⟨w.heap.size + 1, 0, none⟩ (iv x6)).setCell ⟨w.heap.size + 1 + 1, 0, none⟩ (iv x7)) ∧
    ((u1.setCell ⟨w.heap.size + 1, 0, none⟩ (iv x6)).setCell ⟨w.heap.size + 1 + 1, 0, none⟩ (iv x7)).cell? ⟨w.heap.size + 1, 0, none⟩ = some (iv x6) ∧ ((u1.setCell ⟨w.heap.size + 1, 0, none⟩ (iv x6)).setCell ⟨w.heap.size + 1 + 1, 0, none⟩ (iv x7)).cell? ⟨w.heap.size + 1 + 1, 0, none⟩ = some (iv x7) := by
  have v6 := owns_box hR.own b6 (by decide)
  have v7 := owns_box hR.own b7 (by decide)
  refine ⟨hR.keep (F := fun k => k = w.heap.size + 1 ∨ k = w.heap.size + 1 + 1) (((Only.refl (fun k => k = w.heap.size + 1 ∨ k = w.heap.size + 1 + 1) u1).setCell (p := ⟨w.heap.size + 1, 0, none⟩) (.inl (.inl rfl)) (iv x6)).setCell (p := ⟨w.heap.size + 1 + 1, 0, none⟩) (.inl (.inr rfl)) (iv x7)) (by rintro (e | e) <;> omega) (by rintro q hq (e | e); exact v6 (by rw [hq, e]); exact v7 (by rw [hq, e])),
    (hG.off (p := ⟨w.heap.size + 1, 0, none⟩) (by show g ≠ w.heap.size + 1; omega) (iv x6)).off (p := ⟨w.heap.size + 1 + 1, 0, none⟩) (by show g ≠ w.heap.size + 1 + 1; omega) (iv x7),
    (ho.setCell (p := ⟨w.heap.size + 1, 0, none⟩) (.inr (by show w.heap.size ≤ w.heap.size + 1; omega)) _).setCell (p := ⟨w.heap.size + 1 + 1, 0, none⟩) (.inr (by show w.heap.size ≤ w.heap.size + 1 + 1; omega)) _, ?_, ?_⟩
  · have := ((b6.put 0 (iv x6)).off (p := ⟨w.heap.size + 1 + 1, 0, none⟩) (by show w.heap.size + 1 ≠ w.heap.size + 1 + 1; omega) (iv x7)).cell 0
    simpa using this
  · have := ((b7.off (p := ⟨w.heap.size + 1, 0, none⟩) (by show w.heap.size + 1 + 1 ≠ w.heap.size + 1; omega) (iv x6)).put 0 (iv x7)).cell 0
    simpa using this
set_option maxRecDepth 100000 in
set_option maxHeartbeats 4000000 in
theorem readPart_any {w : World} {r : Nat} {v : Value} {bs : List Nat} {a : Nat} (hR : Rd w r v bs a) (m g off n c : Nat) (hm : m ≤ 1) (xs : List Int) (hg : Box w g 3 (xs.map iv).toArray) (hn : off + n ≤ xs.length) (hn6 : n ≤ 65535) :
    Calls Tryz.prog 128 #[.pointer (some ⟨r, 0, none⟩), iv m, .slice (some ⟨g, off, none⟩) n c] w fun e w' => RPost w r v bs m n a g off xs e w' := by
  have hrw := hR.mem
  have hgw := hg.lt
  have hgr : g ≠ r := fun e => by subst e; exact Box.type_ne hg hR.box (by decide) rfl
  obtain ⟨Wa, hWa⟩ : ∃ Wa, ((w.alloc (.cells #[.pointer (some ⟨r, 0, none⟩)] 40)).alloc (.cells #[Value.int .i64 0] 3)).alloc (.cells #[Value.int .i64 0] 3) = Wa := ⟨_, rfl⟩
  have a0 := (((Only.refl Nix w).alloc (.cells #[.pointer (some ⟨r, 0, none⟩)] 40)).alloc (.cells #[Value.int .i64 0] 3)).alloc (.cells #[Value.int .i64 0] 3)
  have B0 := Lib.hid (((Box.new w 40 #[.pointer (some ⟨r, 0, none⟩)]).alloc (.cells #[Value.int .i64 0] 3)).alloc (.cells #[Value.int .i64 0] 3))
  have B1 := Lib.hid ((Box.new (w.alloc (.cells #[.pointer (some ⟨r, 0, none⟩)] 40)) 3 #[Value.int .i64 0]).alloc (.cells #[Value.int .i64 0] 3))
  have B2 := Lib.hid (Box.new ((w.alloc (.cells #[.pointer (some ⟨r, 0, none⟩)] 40)).alloc (.cells #[Value.int .i64 0] 3)) 3 #[Value.int .i64 0])
  rw [World.size_alloc] at B1
  rw [World.size_alloc, World.size_alloc] at B2
  rw [hWa] at a0 B0 B1 B2
  have h1r : w.heap.size + 1 ≠ r := by omega
  have HG := Lib.hid (hg.only a0 (fun e => e))
  have HR := Lib.hid (hR.nix a0)
  have HA0 := Lib.hid a0
  clear hg hR a0
  have HPz := Lib.hid (paramSize_any Wa.drew (m : Int) (by omega))
  have e4 : (4 : Int) + (m : Int) = ((4 + m : Nat) : Int) := by omega
  rw [e4] at HPz
  have HTk := Lib.hid (take_any (HR.out.nix (Only.refl Nix Wa |>.drew)) ((4 + m : Nat) : Int))
  have Htc := Lib.hid (takeE_cases bs a (4 + m) (by omega))
  have HTp : Hid (takeE bs a ((4 + m : Nat) : Int) = 0 → takeR bs a ((4 + m : Nat) : Int) = (numAt bs a (4 + m) : Int) ∧ takeA bs a ((4 + m : Nat) : Int) = a + (4 + m)) := Lib.hid (fun e => by
    obtain ⟨q, e1, _, _, e2, e3⟩ := takeR_pos e
    obtain rfl : 4 + m = q := by omega
    exact ⟨e2, e3⟩)
  obtain ⟨TE, hTE⟩ : ∃ x, takeE bs a ((4 + m : Nat) : Int) = x := ⟨_, rfl⟩
  obtain ⟨TR, hTR⟩ : ∃ x, takeR bs a ((4 + m : Nat) : Int) = x := ⟨_, rfl⟩
  obtain ⟨TA, hTA⟩ : ∃ x, takeA bs a ((4 + m : Nat) : Int) = x := ⟨_, rfl⟩
  rw [hTE, hTR, hTA] at HTk
  rw [hTE] at Htc
  rw [hTE, hTR, hTA] at HTp
  have HTE := Lib.hid hTE
  clear hTE hTR hTA e4
  obtain ⟨M4, hM4⟩ : ∃ x, 4 + m = x := ⟨_, rfl⟩
  rw [hM4] at HPz HTk
  have HM4 := Lib.hid hM4
  clear hM4
  have b0 := B0.out.cell 0
  simp only [List.getElem?_toArray, List.getElem?_cons_zero] at b0
  go_enter Tryz.func128, Tryz.ntmps128
  go_wp2_with fail
  have noOutA : ∀ j s, j < 9 → (([some 10, some 11, some 12, some 13, some 9, some 14, some 15, none, some 8] : List (Option Nat)).all fun d => d != some s) = true → ([some 10, some 11, some 12, some 13, some 9, some 14, some 15, none, some 8] : List (Option Nat)).getD j none ≠ some s := by
    intro j s hj ha e
    rw [List.getD_eq_getElem?_getD, List.getElem?_eq_getElem (by exact hj), Option.getD_some] at e
    have := List.all_eq_true.1 ha _ (List.getElem_mem (by exact hj))
    rw [e] at this
    simp at this
  refine region_val (by kernel_rfl) (fun k0 => ([some 10, some 11, some 12, some 13, some 9, some 14, some 15, none, some 8] : List (Option Nat)).getD k0 none) (fun k0 => ([(.pointer (some ⟨r, 0, none⟩)), (iv m), (iv M4), (.tuple #[iv TR, iv TE]), (.tuple #[iv TR, iv TE]), (iv TR), (iv TE), (undef), (iv TE)] : List Value).getD k0 undef) (St2 3 7 (fun u => u = Wa.drew) (fun u => Rd u r v bs TA ∧ Only (Just r) Wa.drew u) (fun u => ∃ u1, Rd u1 r v bs TA ∧ Only (Just r) Wa.drew u1 ∧ u = u1.setCell ⟨w.heap.size + 1, 0, none⟩ (iv TR))) 39 9 rfl (by kernel_rfl) (by kernel_rfl) rfl (by kernel_rfl) (by kernel_rfl) ⟨fun _ => rfl, (fun e => by cases e), (fun e => by cases e)⟩ ?stepsA [(10, .pointer (some ⟨r, 0, none⟩)), (11, iv m), (12, iv M4), (13, .tuple #[iv TR, iv TE]), (9, .tuple #[iv TR, iv TE]), (14, iv TR), (15, iv TE), (8, iv TE)] rfl ?doneA
  case stepsA =>
    refine ⟨?_, ?_, ?_, ?_, ?_, ?_, ?_, ?_, ?_, trivial⟩
    · intro L A' u hW hL0 hnd K' hK
      have r3 : A'.tmps[3]? = some (.pointer (some ⟨w.heap.size, 0, none⟩)) := (hW.out 3 (fun j hj => noOutA j 3 hj (by kernel_rfl))).trans rfl
      obtain rfl := hW.wi.q0 (notYet hW.closed (j := 3) (by rfl) (k := 0) (by kernel_rfl) hL0)
      go_simp
      exact hK _ (hW.wi.same (by decide) (by decide))
    · intro L A' u hW hL0 hnd K' hK
      have r1 : A'.tmps[1]? = some (iv m) := (hW.out 1 (fun j hj => noOutA j 1 hj (by kernel_rfl))).trans rfl
      go_simp
      exact hK _ (hW.wi.same (by decide) (by decide))
    · intro L A' u hW hL0 hnd K' hK
      have r11 : A'.tmps[11]? = some (iv m) := hW.val 1 11 (by decide) (hnd 1 (by kernel_rfl)) rfl
      obtain rfl := hW.wi.q0 (notYet hW.closed (j := 3) (by rfl) (k := 2) (by kernel_rfl) hL0)
      go_simp
      refine (HPz.out).mono ?_
      rintro e' u' ⟨rfl, rfl⟩
      exact hK _ (hW.wi.same (by decide) (by decide))
    · intro L A' u hW hL0 hnd K' hK
      have r10 : A'.tmps[10]? = some (.pointer (some ⟨r, 0, none⟩)) := hW.val 0 10 (by decide) (hnd 0 (by kernel_rfl)) rfl
      have r12 : A'.tmps[12]? = some (iv M4) := hW.val 2 12 (by decide) (hnd 2 (by kernel_rfl)) rfl
      obtain rfl := hW.wi.q0 hL0
      have l7 : L 7 = false := notYet hW.closed (j := 7) (by rfl) (k := 3) (by kernel_rfl) hL0
      go_simp
      refine (HTk.out).mono ?_
      rintro e' u' ⟨rfl, hR', ho'⟩
      exact hK _ (St2.one l7 (by decide) ⟨hR', ho'⟩)
    · intro L A' u hW hL0 hnd K' hK
      have r13 : A'.tmps[13]? = some (.tuple #[iv TR, iv TE]) := hW.val 3 13 (by decide) (hnd 3 (by kernel_rfl)) rfl
      go_simp
      exact hK _ (hW.wi.same (by decide) (by decide))
    · intro L A' u hW hL0 hnd K' hK
      have r9 : A'.tmps[9]? = some (.tuple #[iv TR, iv TE]) := hW.val 4 9 (by decide) (hnd 4 (by kernel_rfl)) rfl
      go_simp
      exact hK _ (hW.wi.same (by decide) (by decide))
    · intro L A' u hW hL0 hnd K' hK
      have r9 : A'.tmps[9]? = some (.tuple #[iv TR, iv TE]) := hW.val 4 9 (by decide) (hnd 4 (by kernel_rfl)) rfl
      go_simp
      exact hK _ (hW.wi.same (by decide) (by decide))
    · intro L A' u hW hL0 hnd K' hK
      have r6 : A'.tmps[6]? = some (.pointer (some ⟨w.heap.size + 1, 0, none⟩)) := (hW.out 6 (fun j hj => noOutA j 6 hj (by kernel_rfl))).trans rfl
      have r14 : A'.tmps[14]? = some (iv TR) := hW.val 5 14 (by decide) (hnd 5 (by kernel_rfl)) rfl
      have l3 : L 3 = true := hnd 3 (by kernel_rfl)
      obtain ⟨hR', ho'⟩ := hW.wi.q1 l3 hL0
      have bp' := B1.out.only (Only.then (Only.refl (Just r) Wa |>.drew) ho' (fun i e => .inl e)) (fun e => h1r e)
      have cp' := bp'.cell 0
      have fp' := bp'.frozen 0
      simp only [List.getElem?_toArray, List.getElem?_cons_zero] at cp'
      go_simp
      exact hK _ (St2.two l3 (by decide) ⟨_, hR', ho', rfl⟩)
    · intro L A' u hW hL0 hnd K' hK
      have r15 : A'.tmps[15]? = some (iv TE) := hW.val 6 15 (by decide) (hnd 6 (by kernel_rfl)) rfl
      go_simp
      exact hK _ (hW.wi.same (by decide) (by decide))
  case doneA =>
    intro L u hWI hall
    obtain ⟨u1, hR1, ho1, rfl⟩ := hWI.q2 (hall 7 (by decide))
    clear hWI hall noOutA HPz HTk
    simp only [putV, List.foldl_cons, List.foldl_nil]
    have oW : Only (Just r) w (u1.setCell ⟨w.heap.size + 1, 0, none⟩ (iv TR)) := ((HA0.out.nix (F := Just r)).drew.trans ho1).setCell (p := ⟨w.heap.size + 1, 0, none⟩) (.inr (by show w.heap.size ≤ w.heap.size + 1; omega)) _
    have R2 := Lib.hid (hR1.keep (F := Just (w.heap.size + 1)) ((Only.refl (Just (w.heap.size + 1)) u1).setCell (p := ⟨w.heap.size + 1, 0, none⟩) (.inl rfl) (iv TR)) (fun e => h1r e.symm) (fun q hq e => by
      have := owns_box hR1.own ((B1.out.drew).only ho1 (fun e => h1r e)) (by decide)
      exact this (by rw [hq]; exact congrArg some e)))
    have G2 := Lib.hid (((HG.out.drew).only ho1 (fun e => hgr e)).off (p := ⟨w.heap.size + 1, 0, none⟩) (by show g ≠ w.heap.size + 1; omega) (iv TR))
    have D0 := Lib.hid (((B0.out.drew).only ho1 (fun e => by have : w.heap.size = r := e; omega)).off (p := ⟨w.heap.size + 1, 0, none⟩) (by show w.heap.size ≠ w.heap.size + 1; omega) (iv TR))
    have D1 : Hid (Box (u1.setCell ⟨w.heap.size + 1, 0, none⟩ (iv TR)) (w.heap.size + 1) 3 #[iv TR]) := Lib.hid (((B1.out.drew).only ho1 (fun e => h1r e)).put 0 (iv TR))
    have D2 := Lib.hid (((B2.out.drew).only ho1 (fun e => by have : w.heap.size + 1 + 1 = r := e; omega)).off (p := ⟨w.heap.size + 1, 0, none⟩) (by show w.heap.size + 1 + 1 ≠ w.heap.size + 1; omega) (iv TR))
    have OW := Lib.hid oW
    clear B0 B1 B2 HG HR HA0 hR1 ho1 oW b0 hWa
    generalize u1.setCell ⟨w.heap.size + 1, 0, none⟩ (iv TR) = w2 at *
    have c0 := D0.out.cell 0
    have c1 := D1.out.cell 0
    have c2 := D2.out.cell 0
    have f1 := D1.out.frozen 0
    have f2 := D2.out.frozen 0
    simp only [List.getElem?_toArray, List.getElem?_cons_zero] at c0 c1 c2
    by_cases hTE0 : TE = 0
    · subst hTE0
      obtain ⟨eR, eA⟩ := HTp.out rfl
      obtain ⟨pN, hpN⟩ : ∃ pN, numAt bs a (4 + m) = pN := ⟨_, rfl⟩
      obtain ⟨aN, haN⟩ : ∃ aN, a + (4 + m) = aN := ⟨_, rfl⟩
      rw [hpN] at eR
      rw [haN] at eA
      subst eR
      have eA2 := eA.symm
      clear eA
      subst eA2
      have hpl := numAt_lt bs a (4 + m)
      rw [hpN] at hpl
      have hp31 : pN ≤ 15 + 16 * m := by
        obtain rfl | rfl : m = 0 ∨ m = 1 := by omega
        · have : (2 : Nat) ^ (4 + 0) = 16 := by decide
          omega
        · have : (2 : Nat) ^ (4 + 1) = 32 := by decide
          omega
      have HpN := Lib.hid hpN
      have HaN := Lib.hid haN
      clear hpN haN hpl HTp Htc
      have HRc : ∀ k, Hid (Calls Tryz.prog 101 #[iv m] (w2.drewN k) fun e w' => e = .returned (iv (15 + 16 * (m : Int))) ∧ w2.drewN k = w') := fun k => Lib.hid (rawCode_any _ m (by omega))
      go_wp2
      go_quiet ((go_at_call 101; exact still_at ((HRc _).out)))
      by_cases hraw : pN = 15 + 16 * m
      · have hne : ((pN : Int) != 15 + 16 * (m : Int)) = false := by simp; omega
        have Hraw := Lib.hid hraw
        clear hraw HRc
        have D0n := Lib.hid (D0.out.drewN nq)
        have D1n := Lib.hid (D1.out.drewN nq)
        have D2n := Lib.hid (D2.out.drewN nq)
        have HTk5 := Lib.hid (take_any (R2.out.drewN nq) (5 : Int))
        have OWn := Lib.hid (OW.out.drewN nq)
        have G2n := Lib.hid (G2.out.drewN nq)
        clear R2 G2 D0 D1 D2 OW c0 c1 c2 f1 f2
        generalize w2.drewN nq = w3 at *
        have Htc := Lib.hid (takeE_cases bs aN 5 (by omega))
        have HTp : Hid (takeE bs aN 5 = 0 → takeR bs aN 5 = (numAt bs aN 5 : Int) ∧ takeA bs aN 5 = aN + 5) := Lib.hid (fun e => by
          obtain ⟨q, e1, _, _, e2, e3⟩ := takeR_pos e
          obtain rfl : 5 = q := by omega
          exact ⟨e2, e3⟩)
        obtain ⟨TE, hTE⟩ : ∃ x, takeE bs aN 5 = x := ⟨_, rfl⟩
        obtain ⟨TR, hTR⟩ : ∃ x, takeR bs aN 5 = x := ⟨_, rfl⟩
        obtain ⟨TB, hTB⟩ : ∃ x, takeA bs aN 5 = x := ⟨_, rfl⟩
        rw [hTE, hTR, hTB] at HTk5
        rw [show ((5 : Nat) : Int) = 5 from rfl, hTE] at Htc
        rw [hTE, hTR, hTB] at HTp
        have HTE5 := Lib.hid hTE
        clear hTE hTR hTB
        have c0 := D0n.out.cell 0
        rw [List.getElem?_toArray, List.getElem?_cons_zero] at c0
        go_wp2_with fail
        refine (HTk5.out).mono ?_
        rintro e w4 ⟨rfl, hR4, ho4⟩
        have E0 := Lib.hid (D0n.out.only ho4 (fun e => by have : w.heap.size = r := e; omega))
        have E1 := Lib.hid (D1n.out.only ho4 (fun e => h1r e))
        have E2 := Lib.hid (D2n.out.only ho4 (fun e => by have : w.heap.size + 1 + 1 = r := e; omega))
        have c1 := E1.out.cell 0
        have c2 := E2.out.cell 0
        have f1 := E1.out.frozen 0
        have f2 := E2.out.frozen 0
        rw [List.getElem?_toArray, List.getElem?_cons_zero] at c1 c2
        have OW4 := Lib.hid (OWn.out.trans ho4)
        have G4 := Lib.hid (G2n.out.only ho4 (fun e => hgr e))
        have R4 := Lib.hid hR4
        clear D0n D1n D2n OWn G2n HTk5 ho4 c0 hR4
        by_cases hTE0 : TE = 0
        · subst hTE0
          obtain ⟨eR, eA⟩ := HTp.out rfl
          obtain ⟨wdN, hwN⟩ : ∃ x, numAt bs aN 5 = x := ⟨_, rfl⟩
          obtain ⟨aM, haM⟩ : ∃ x, aN + 5 = x := ⟨_, rfl⟩
          rw [hwN] at eR
          rw [haM] at eA
          subst eR
          have eA2 := eA.symm
          clear eA
          subst eA2
          have hwl := numAt_lt bs aN 5
          rw [hwN] at hwl
          have hw31 : wdN ≤ 31 := by
            have : (2 : Nat) ^ 5 = 32 := by decide
            omega
          have HwN := Lib.hid hwN
          have HaM := Lib.hid haM
          clear hwN haM hwl HTp Htc
          have E0s := Lib.hid (E0.out.off (p := ⟨w.heap.size + 1 + 1, 0, none⟩) (by show w.heap.size ≠ w.heap.size + 1 + 1; omega) (iv wdN))
          have E1s := Lib.hid (E1.out.off (p := ⟨w.heap.size + 1 + 1, 0, none⟩) (by show w.heap.size + 1 ≠ w.heap.size + 1 + 1; omega) (iv wdN))
          have E2s : Hid (Box (w4.setCell ⟨w.heap.size + 1 + 1, 0, none⟩ (iv wdN)) (w.heap.size + 1 + 1) 3 #[iv wdN]) := Lib.hid (E2.out.put 0 (iv wdN))
          have G4s := Lib.hid (G4.out.off (p := ⟨w.heap.size + 1 + 1, 0, none⟩) (by show g ≠ w.heap.size + 1 + 1; omega) (iv wdN))
          have v2 := owns_box R4.out.own E2.out (by decide)
          have R4s := Lib.hid (R4.out.keep (F := Just (w.heap.size + 1 + 1)) ((Only.refl (Just (w.heap.size + 1 + 1)) w4).setCell (p := ⟨w.heap.size + 1 + 1, 0, none⟩) (.inl rfl) (iv wdN)) (fun e => by have : r = w.heap.size + 1 + 1 := e; omega) (fun q hq e => v2 (by rw [hq]; exact congrArg some e)))
          have OW4s := Lib.hid (OW4.out.setCell (p := ⟨w.heap.size + 1 + 1, 0, none⟩) (.inr (by show w.heap.size ≤ w.heap.size + 1 + 1; omega)) (iv wdN))
          clear E0 E1 G4 R4 OW4 v2
          go_wp2_with fail
          clear E2 c1 c2 f1 f2
          generalize w4.setCell ⟨w.heap.size + 1 + 1, 0, none⟩ (iv wdN) = Wb at *
          have D0q := Lib.hid (E0s.out.drew)
          have D1q := Lib.hid (E1s.out.drew)
          have D2q := Lib.hid (E2s.out.drew)
          have HFl0 := (fillS_any (R4s.out.nix (Only.refl Nix _ |>.drew)) wdN w.heap.size (w.heap.size + 1 + 1) g off n c hw31 D0q.out D2q.out xs (G4s.out.drew) (by omega) hn hn6)
          obtain ⟨FEv, hFE⟩ : ∃ x, fE (sgX bs wdN) n aM = x := ⟨_, rfl⟩
          have HFE := Lib.hid hFE
          have HFl := Lib.hid (HFl0.mono (R' := fun e u => e = .returned (iv FEv) ∧ FPd Wb.drew r v bs g xs off n (sgX bs wdN) aM u) fun e u h => ⟨h.1.trans (by rw [hFE]), h.2⟩)
          clear hFE HFl0
          have C0 : Hid (Wb.drew.cell? ⟨w.heap.size + 1 + 1, 0, none⟩ = some (iv wdN)) := Lib.hid (by rw [D2q.out.cell]; rfl)
          have N1 : Hid (¬ w.heap.size + 1 + 1 = r) := Lib.hid (by omega)
          have N2 : Hid (¬ w.heap.size + 1 + 1 = g) := Lib.hid (by omega)
          have M1 : Hid (¬ w.heap.size + 1 = r) := Lib.hid h1r
          have M2 : Hid (¬ w.heap.size + 1 = g) := Lib.hid (by omega)
          have O1 := N1
          have O2 := N2
          have B6 := D1q
          have B7 := D2q
          generalize (Value.slice (some ⟨g, off, none⟩) n c) = PV at *
          have noOutS : ∀ j s, j < 7 → (([some 35, some 36, some 37, some 38, none, none, some 8] : List (Option Nat)).all fun d => d != some s) = true → ([some 35, some 36, some 37, some 38, none, none, some 8] : List (Option Nat)).getD j none ≠ some s := by
            intro j s hj ha e
            rw [List.getD_eq_getElem?_getD, List.getElem?_eq_getElem (by exact hj), Option.getD_some] at e
            have := List.all_eq_true.1 ha _ (List.getElem_mem (by exact hj))
            rw [e] at this
            simp at this
          refine region_val (by kernel_rfl) (fun k0 => ([some 35, some 36, some 37, some 38, none, none, some 8] : List (Option Nat)).getD k0 none) (fun k0 => ([(iv wdN), (PV), (.func (.func 138) #[] #[.pointer (some ⟨w.heap.size, 0, none⟩), .pointer (some ⟨w.heap.size + 1 + 1, 0, none⟩)]), (iv FEv), (undef), (undef), (iv FEv)] : List Value).getD k0 undef) (St3 3 4 5 (fun u => u = Wb.drew) (fun u => FPd Wb.drew r v bs g xs off n (sgX bs wdN) aM u) (fun u => ∃ u1, FPd Wb.drew r v bs g xs off n (sgX bs wdN) aM u1 ∧ u = u1.setCell ⟨w.heap.size + 1, 0, none⟩ (iv (-1))) (fun u => ∃ u1, FPd Wb.drew r v bs g xs off n (sgX bs wdN) aM u1 ∧ u = (u1.setCell ⟨w.heap.size + 1, 0, none⟩ (iv (-1))).setCell ⟨w.heap.size + 1 + 1, 0, none⟩ (iv wdN))) 39 7 rfl (by kernel_rfl) (by kernel_rfl) rfl (by kernel_rfl) (by kernel_rfl) ⟨fun _ => rfl, (fun e => by cases e), (fun e => by cases e), (fun e => by cases e)⟩ ?stepsS [(35, iv wdN), (36, PV), (37, .func (.func 138) #[] #[.pointer (some ⟨w.heap.size, 0, none⟩), .pointer (some ⟨w.heap.size + 1 + 1, 0, none⟩)]), (38, iv FEv), (8, iv FEv)] rfl ?doneS
          case stepsS =>
            refine ⟨?_, ?_, ?_, ?_, ?_, ?_, ?_, trivial⟩
            · intro L A' u hW hL0 hnd K' hK
              have r7 : A'.tmps[7]? = some (.pointer (some ⟨w.heap.size + 1 + 1, 0, none⟩)) := (hW.out 7 (fun j hj => noOutS j 7 hj (by kernel_rfl))).trans rfl
              have cld : u.cell? ⟨w.heap.size + 1 + 1, 0, none⟩ = some (iv wdN) := by
                cases h3 : L 3 with
                | false => obtain rfl := hW.wi.q0 h3; exact C0.out
                | true =>
                  cases h4 : L 4 with
                  | false => obtain ⟨a', xs', _, _, _, ho', _⟩ := hW.wi.q1 h3 h4; exact cell_only ho' C0.out (by rintro (e | e); exact N1.out e; exact N2.out e)
                  | true =>
                    have h5 : L 5 = false := notYet hW.closed (j := 5) (by rfl) (k := 0) (by kernel_rfl) hL0
                    obtain ⟨u1, ⟨a', xs', _, _, _, ho', _⟩, rfl⟩ := hW.wi.q2 h4 h5
                    rw [World.cell?_setCell_other _ _ _ _ (by intro e; injection e with e; omega)]
                    exact cell_only ho' C0.out (by rintro (e | e); exact N1.out e; exact N2.out e)
              go_simp
              exact hK _ (hW.wi.same (by decide) (by decide) (by decide))
            · intro L A' u hW hL0 hnd K' hK
              have r2 : A'.tmps[2]? = some (PV) := (hW.out 2 (fun j hj => noOutS j 2 hj (by kernel_rfl))).trans rfl
              go_simp
              exact hK _ (hW.wi.same (by decide) (by decide) (by decide))
            · intro L A' u hW hL0 hnd K' hK
              have r3 : A'.tmps[3]? = some (.pointer (some ⟨w.heap.size, 0, none⟩)) := (hW.out 3 (fun j hj => noOutS j 3 hj (by kernel_rfl))).trans rfl
              have r7 : A'.tmps[7]? = some (.pointer (some ⟨w.heap.size + 1 + 1, 0, none⟩)) := (hW.out 7 (fun j hj => noOutS j 7 hj (by kernel_rfl))).trans rfl
              go_simp
              exact hK _ (hW.wi.same (by decide) (by decide) (by decide))
            · intro L A' u hW hL0 hnd K' hK
              have r36 : A'.tmps[36]? = some (PV) := hW.val 1 36 (by decide) (hnd 1 (by kernel_rfl)) rfl
              have r37 : A'.tmps[37]? = some (.func (.func 138) #[] #[.pointer (some ⟨w.heap.size, 0, none⟩), .pointer (some ⟨w.heap.size + 1 + 1, 0, none⟩)]) := hW.val 2 37 (by decide) (hnd 2 (by kernel_rfl)) rfl
              obtain rfl := hW.wi.q0 hL0
              have l4 : L 4 = false := notYet hW.closed (j := 4) (by rfl) (k := 3) (by kernel_rfl) hL0
              have l5 : L 5 = false := notYet hW.closed (j := 5) (by rfl) (k := 4) (by kernel_rfl) l4
              go_simp
              refine (HFl.out).mono ?_
              rintro e' u' ⟨rfl, hq'⟩
              exact hK _ (St3.one l4 l5 (by decide) (by decide) hq')
            · intro L A' u hW hL0 hnd K' hK
              have r6 : A'.tmps[6]? = some (.pointer (some ⟨w.heap.size + 1, 0, none⟩)) := (hW.out 6 (fun j hj => noOutS j 6 hj (by kernel_rfl))).trans rfl
              have l3 : L 3 = true := hnd 3 (by kernel_rfl)
              have l5 : L 5 = false := notYet hW.closed (j := 5) (by rfl) (k := 4) (by kernel_rfl) hL0
              have hf := hW.wi.q1 l3 hL0
              have hf2 := hf
              obtain ⟨a', xs', _, _, _, ho', _⟩ := hf2
              have b6' := B6.out.only ho' (by rintro (e | e); exact M1.out e; exact M2.out e)
              have c6' := b6'.cell 0
              have f6' := b6'.frozen 0
              rw [List.getElem?_toArray, List.getElem?_cons_zero] at c6'
              go_simp
              exact hK _ (St3.two l3 l5 (by decide) (by decide) ⟨_, hf, rfl⟩)
            · intro L A' u hW hL0 hnd K' hK
              have r7 : A'.tmps[7]? = some (.pointer (some ⟨w.heap.size + 1 + 1, 0, none⟩)) := (hW.out 7 (fun j hj => noOutS j 7 hj (by kernel_rfl))).trans rfl
              have r35 : A'.tmps[35]? = some (iv wdN) := hW.val 0 35 (by decide) (hnd 0 (by kernel_rfl)) rfl
              have l4 : L 4 = true := hnd 4 (by kernel_rfl)
              have l3 : L 3 = true := hW.closed 4 _ 3 (by rfl) l4 (by kernel_rfl)
              obtain ⟨u1, hf, rfl⟩ := hW.wi.q2 l4 hL0
              have hf2 := hf
              obtain ⟨a', xs', _, _, _, ho', _⟩ := hf2
              have b7' := (B7.out.only ho' (by rintro (e | e); exact O1.out e; exact O2.out e)).off (p := ⟨w.heap.size + 1, 0, none⟩) (by show w.heap.size + 1 + 1 ≠ w.heap.size + 1; omega) (iv (-1))
              have c7' := b7'.cell 0
              have f7' := b7'.frozen 0
              rw [List.getElem?_toArray, List.getElem?_cons_zero] at c7'
              go_simp
              exact hK _ (St3.three l3 l4 (by decide) (by decide) ⟨_, hf, rfl⟩)
            · intro L A' u hW hL0 hnd K' hK
              have r38 : A'.tmps[38]? = some (iv FEv) := hW.val 3 38 (by decide) (hnd 3 (by kernel_rfl)) rfl
              go_simp
              exact hK _ (hW.wi.same (by decide) (by decide) (by decide))
          case doneS =>
            intro L u hWI hall
            obtain ⟨u1, ⟨a', xs', hl', hR', hG', ho', hfin⟩, rfl⟩ := hWI.q3 (hall 5 (by decide))
            clear hWI hall noOutS HFl
            simp only [putV, List.foldl_cons, List.foldl_nil]
            have Hfin := Lib.hid hfin
            clear hfin
            obtain ⟨z1, z2, z3, z6, z7⟩ := part_end (w := w) (-1) wdN hR' hG' (B6.out.only ho' (by rintro (e | e); exact M1.out e; exact M2.out e)) (B7.out.only ho' (by rintro (e | e); exact O1.out e; exact O2.out e)) ((OW4s.out.mono (F' := RG r g) (fun _ e => .inl e)).drew.trans ho') hrw hgw
            have Z1 := Lib.hid z1
            have Z2 := Lib.hid z2
            have Z3 := Lib.hid z3
            clear z1 z2 z3 hR' hG' ho'
            go_wp2
            refine bodyPost_ret (v := .tuple #[iv (-1), iv wdN, iv FEv]) ?_ rfl ?_
            · simp [results, Tryz.f128, go_sem, z6, z7]
            refine ⟨-1, wdN, FEv, a', xs', rfl, hl', Z1.out, Z2.out, Z3.out, ?_, by unfold rpT; rw [if_neg (by rw [HTE.out]; simp), if_neg (by rw [HpN.out, Hraw.out]; simp), if_neg (by rw [HaN.out, HTE5.out]; simp), HaN.out, HwN.out, HaM.out, HFE.out]⟩
            rcases fE_err (sgX bs wdN) (fun a => sgX_err bs wdN a (by omega)) n aM with h0 | h0
            · obtain ⟨h1, h2⟩ := Hfin.out h0
              refine .inl ⟨by rw [← HFE.out]; exact h0, _, ⟨HTE.out, .inr ⟨?_, ?_, rfl, ?_, ?_, rfl, ?_⟩⟩, ?_⟩
              · rw [HpN.out]; exact Hraw.out
              · rw [HaN.out]; exact HTE5.out
              · rw [HaN.out, HwN.out]
              · rw [HaN.out, HwN.out, HaM.out]; exact h0
              · rw [HaN.out, HwN.out, HaM.out]; exact h1
              · rw [HaN.out, HwN.out, HaM.out]; exact h2
            · refine .inr ⟨by rw [← HFE.out]; exact h0, ?_⟩
              rintro p' wd' ys' a2 ⟨_, ⟨hz, _⟩ | ⟨_, _, _, _, hz, _⟩⟩
              · rw [HpN.out] at hz; exact hz Hraw.out
              · rw [HaN.out, HwN.out, HaM.out] at hz; omega
        · have hb : (TE != 0) = true := by simpa using hTE0
          have e11 : TE = 11 := by
            rcases Htc.out with h | h
            · exact absurd h hTE0
            · exact h
          subst e11
          have v2 := owns_box R4.out.own E2.out (by decide)
          have R4s := R4.out.keep (F := Just (w.heap.size + 1 + 1)) ((Only.refl (Just (w.heap.size + 1 + 1)) w4).setCell (p := ⟨w.heap.size + 1 + 1, 0, none⟩) (.inl rfl) (iv TR)) (fun e => by have : r = w.heap.size + 1 + 1 := e; omega) (fun q hq e => v2 (by rw [hq]; exact congrArg some e))
          obtain ⟨z1, z2, z3, z6, z7⟩ := part_end (w := w) 0 0 R4s (G4.out.off (p := ⟨w.heap.size + 1 + 1, 0, none⟩) (by show g ≠ w.heap.size + 1 + 1; omega) (iv TR)) (E1.out.off (p := ⟨w.heap.size + 1 + 1, 0, none⟩) (by show w.heap.size + 1 ≠ w.heap.size + 1 + 1; omega) (iv TR)) (z7 := iv TR) (E2.out.put 0 (iv TR)) ((OW4.out.setCell (p := ⟨w.heap.size + 1 + 1, 0, none⟩) (.inr (by show w.heap.size ≤ w.heap.size + 1 + 1; omega)) (iv TR)).mono (fun _ e => .inl e)) hrw hgw
          have Z1 := Lib.hid z1
          have Z2 := Lib.hid z2
          have Z3 := Lib.hid z3
          clear z1 z2 z3 R4s v2 E0 E1 E2 G4 R4 OW4 HTp Htc
          go_wp2
          refine bodyPost_ret (v := .tuple #[iv 0, iv 0, iv 11]) ?_ rfl ?_
          · simp [results, Tryz.f128, go_sem, z6, z7]
          refine ⟨0, 0, 11, _, xs, rfl, rfl, Z1.out, Z2.out, Z3.out, .inr ⟨.inr rfl, ?_⟩, by unfold rpT; rw [if_neg (by rw [HTE.out]; simp), if_neg (by rw [HpN.out, Hraw.out]; simp), if_pos (by rw [HaN.out, HTE5.out]; decide)]⟩
          rintro p' wd' ys' a2 ⟨_, ⟨hz, _⟩ | ⟨_, hz, _⟩⟩
          · rw [HpN.out] at hz; exact hz Hraw.out
          · rw [HaN.out, HTE5.out] at hz; omega
      · have hp30 : pN ≤ 30 := by omega
        have hne : ((pN : Int) != 15 + 16 * (m : Int)) = true := by simp; omega
        have Hraw := Lib.hid hraw
        clear hraw HRc
        have D0q := Lib.hid ((D0.out.drewN nq).drew)
        have D1q := Lib.hid ((D1.out.drewN nq).drew)
        have D2q := Lib.hid ((D2.out.drewN nq).drew)
        have HFl0 := (fillC_any ((R2.out.drewN nq).nix (Only.refl Nix _ |>.drew)) pN w.heap.size (w.heap.size + 1) g off n c hp30 D0q.out D1q.out xs ((G2.out.drewN nq).drew) (by omega) hn hn6)
        obtain ⟨FEv, hFE⟩ : ∃ x, fE (rcX bs pN) n aN = x := ⟨_, rfl⟩
        have HFE := Lib.hid hFE
        have HFl := Lib.hid (HFl0.mono (R' := fun e u => e = .returned (iv FEv) ∧ FPd (w2.drewN nq).drew r v bs g xs off n (rcX bs pN) aN u) fun e u h => ⟨h.1.trans (by rw [hFE]), h.2⟩)
        clear hFE HFl0
        obtain ⟨Wb, hWb⟩ : ∃ Wb, w2.drewN nq = Wb := ⟨_, rfl⟩
        simp only [hWb] at HFl D0q D1q D2q ⊢
        have OWb : Hid (Only (Just r) w Wb) := Lib.hid (by rw [← hWb]; exact OW.out.drewN nq)
        clear hWb
        have C0 : Hid (Wb.drew.cell? ⟨w.heap.size + 1, 0, none⟩ = some (iv pN)) := Lib.hid (by rw [D1q.out.cell]; rfl)
        have N1 : Hid (¬ w.heap.size + 1 = r) := Lib.hid h1r
        have N2 : Hid (¬ w.heap.size + 1 = g) := Lib.hid (by omega)
        have M1 := N1
        have M2 := N2
        have O1 : Hid (¬ w.heap.size + 1 + 1 = r) := Lib.hid (by omega)
        have O2 : Hid (¬ w.heap.size + 1 + 1 = g) := Lib.hid (by omega)
        have B6 := D1q
        have B7 := D2q
        clear c0 c1 c2 f1 f2 R2 G2 D0 D1 D2 OW
        generalize (Value.slice (some ⟨g, off, none⟩) n c) = PV at *
        go_wp2_with fail
        have noOutC : ∀ j s, j < 7 → (([some 23, some 24, some 25, some 26, none, none, some 8] : List (Option Nat)).all fun d => d != some s) = true → ([some 23, some 24, some 25, some 26, none, none, some 8] : List (Option Nat)).getD j none ≠ some s := by
          intro j s hj ha e
          rw [List.getD_eq_getElem?_getD, List.getElem?_eq_getElem (by exact hj), Option.getD_some] at e
          have := List.all_eq_true.1 ha _ (List.getElem_mem (by exact hj))
          rw [e] at this
          simp at this
        refine region_val (by kernel_rfl) (fun k0 => ([some 23, some 24, some 25, some 26, none, none, some 8] : List (Option Nat)).getD k0 none) (fun k0 => ([(iv pN), (PV), (.func (.func 136) #[] #[.pointer (some ⟨w.heap.size, 0, none⟩), .pointer (some ⟨w.heap.size + 1, 0, none⟩)]), (iv FEv), (undef), (undef), (iv FEv)] : List Value).getD k0 undef) (St3 3 4 5 (fun u => u = Wb.drew) (fun u => FPd Wb.drew r v bs g xs off n (rcX bs pN) aN u) (fun u => ∃ u1, FPd Wb.drew r v bs g xs off n (rcX bs pN) aN u1 ∧ u = u1.setCell ⟨w.heap.size + 1, 0, none⟩ (iv pN)) (fun u => ∃ u1, FPd Wb.drew r v bs g xs off n (rcX bs pN) aN u1 ∧ u = (u1.setCell ⟨w.heap.size + 1, 0, none⟩ (iv pN)).setCell ⟨w.heap.size + 1 + 1, 0, none⟩ (iv 0))) 39 7 rfl (by kernel_rfl) (by kernel_rfl) rfl (by kernel_rfl) (by kernel_rfl) ⟨fun _ => rfl, (fun e => by cases e), (fun e => by cases e), (fun e => by cases e)⟩ ?stepsC [(23, iv pN), (24, PV), (25, .func (.func 136) #[] #[.pointer (some ⟨w.heap.size, 0, none⟩), .pointer (some ⟨w.heap.size + 1, 0, none⟩)]), (26, iv FEv), (8, iv FEv)] rfl ?doneC
        case stepsC =>
          refine ⟨?_, ?_, ?_, ?_, ?_, ?_, ?_, trivial⟩
          · intro L A' u hW hL0 hnd K' hK
            have r6 : A'.tmps[6]? = some (.pointer (some ⟨w.heap.size + 1, 0, none⟩)) := (hW.out 6 (fun j hj => noOutC j 6 hj (by kernel_rfl))).trans rfl
            have cld : u.cell? ⟨w.heap.size + 1, 0, none⟩ = some (iv pN) := by
              cases h3 : L 3 with
              | false => obtain rfl := hW.wi.q0 h3; exact C0.out
              | true =>
                cases h4 : L 4 with
                | false => obtain ⟨a', xs', _, _, _, ho', _⟩ := hW.wi.q1 h3 h4; exact cell_only ho' C0.out (by rintro (e | e); exact N1.out e; exact N2.out e)
                | true => have := notYet hW.closed (j := 4) (by rfl) (k := 0) (by kernel_rfl) hL0; rw [h4] at this; cases this
            go_simp
            exact hK _ (hW.wi.same (by decide) (by decide) (by decide))
          · intro L A' u hW hL0 hnd K' hK
            have r2 : A'.tmps[2]? = some (PV) := (hW.out 2 (fun j hj => noOutC j 2 hj (by kernel_rfl))).trans rfl
            go_simp
            exact hK _ (hW.wi.same (by decide) (by decide) (by decide))
          · intro L A' u hW hL0 hnd K' hK
            have r3 : A'.tmps[3]? = some (.pointer (some ⟨w.heap.size, 0, none⟩)) := (hW.out 3 (fun j hj => noOutC j 3 hj (by kernel_rfl))).trans rfl
            have r6 : A'.tmps[6]? = some (.pointer (some ⟨w.heap.size + 1, 0, none⟩)) := (hW.out 6 (fun j hj => noOutC j 6 hj (by kernel_rfl))).trans rfl
            go_simp
            exact hK _ (hW.wi.same (by decide) (by decide) (by decide))
          · intro L A' u hW hL0 hnd K' hK
            have r24 : A'.tmps[24]? = some (PV) := hW.val 1 24 (by decide) (hnd 1 (by kernel_rfl)) rfl
            have r25 : A'.tmps[25]? = some (.func (.func 136) #[] #[.pointer (some ⟨w.heap.size, 0, none⟩), .pointer (some ⟨w.heap.size + 1, 0, none⟩)]) := hW.val 2 25 (by decide) (hnd 2 (by kernel_rfl)) rfl
            obtain rfl := hW.wi.q0 hL0
            have l4 : L 4 = false := notYet hW.closed (j := 4) (by rfl) (k := 3) (by kernel_rfl) hL0
            have l5 : L 5 = false := notYet hW.closed (j := 5) (by rfl) (k := 4) (by kernel_rfl) l4
            go_simp
            refine (HFl.out).mono ?_
            rintro e' u' ⟨rfl, hq'⟩
            exact hK _ (St3.one l4 l5 (by decide) (by decide) hq')
          · intro L A' u hW hL0 hnd K' hK
            have r6 : A'.tmps[6]? = some (.pointer (some ⟨w.heap.size + 1, 0, none⟩)) := (hW.out 6 (fun j hj => noOutC j 6 hj (by kernel_rfl))).trans rfl
            have r23 : A'.tmps[23]? = some (iv pN) := hW.val 0 23 (by decide) (hnd 0 (by kernel_rfl)) rfl
            have l3 : L 3 = true := hnd 3 (by kernel_rfl)
            have l5 : L 5 = false := notYet hW.closed (j := 5) (by rfl) (k := 4) (by kernel_rfl) hL0
            have hf := hW.wi.q1 l3 hL0
            have hf2 := hf
            obtain ⟨a', xs', _, _, _, ho', _⟩ := hf2
            have b6' := B6.out.only ho' (by rintro (e | e); exact M1.out e; exact M2.out e)
            have c6' := b6'.cell 0
            have f6' := b6'.frozen 0
            rw [List.getElem?_toArray, List.getElem?_cons_zero] at c6'
            go_simp
            exact hK _ (St3.two l3 l5 (by decide) (by decide) ⟨_, hf, rfl⟩)
          · intro L A' u hW hL0 hnd K' hK
            have r7 : A'.tmps[7]? = some (.pointer (some ⟨w.heap.size + 1 + 1, 0, none⟩)) := (hW.out 7 (fun j hj => noOutC j 7 hj (by kernel_rfl))).trans rfl
            have l4 : L 4 = true := hnd 4 (by kernel_rfl)
            have l3 : L 3 = true := hW.closed 4 _ 3 (by rfl) l4 (by kernel_rfl)
            obtain ⟨u1, hf, rfl⟩ := hW.wi.q2 l4 hL0
            have hf2 := hf
            obtain ⟨a', xs', _, _, _, ho', _⟩ := hf2
            have b7' := (B7.out.only ho' (by rintro (e | e); exact O1.out e; exact O2.out e)).off (p := ⟨w.heap.size + 1, 0, none⟩) (by show w.heap.size + 1 + 1 ≠ w.heap.size + 1; omega) (iv pN)
            have c7' := b7'.cell 0
            have f7' := b7'.frozen 0
            rw [List.getElem?_toArray, List.getElem?_cons_zero] at c7'
            go_simp
            exact hK _ (St3.three l3 l4 (by decide) (by decide) ⟨_, hf, rfl⟩)
          · intro L A' u hW hL0 hnd K' hK
            have r26 : A'.tmps[26]? = some (iv FEv) := hW.val 3 26 (by decide) (hnd 3 (by kernel_rfl)) rfl
            go_simp
            exact hK _ (hW.wi.same (by decide) (by decide) (by decide))
        case doneC =>
          intro L u hWI hall
          obtain ⟨u1, ⟨a', xs', hl', hR', hG', ho', hfin⟩, rfl⟩ := hWI.q3 (hall 5 (by decide))
          clear hWI hall noOutC HFl
          simp only [putV, List.foldl_cons, List.foldl_nil]
          have Hfin := Lib.hid hfin
          clear hfin
          have y6 := (((B6.out.only ho' (by rintro (e | e); exact M1.out e; exact M2.out e)).put 0 (iv pN)).off (p := ⟨w.heap.size + 1 + 1, 0, none⟩) (by show w.heap.size + 1 ≠ w.heap.size + 1 + 1; omega) (iv 0)).cell 0
          have y7 := (((B7.out.only ho' (by rintro (e | e); exact O1.out e; exact O2.out e)).off (p := ⟨w.heap.size + 1, 0, none⟩) (by show w.heap.size + 1 + 1 ≠ w.heap.size + 1; omega) (iv pN)).put 0 (iv 0)).cell 0
          simp at y6 y7
          have oF : Only (RG r g) w ((u1.setCell ⟨w.heap.size + 1, 0, none⟩ (iv pN)).setCell ⟨w.heap.size + 1 + 1, 0, none⟩ (iv 0)) := (((OWb.out.mono (F' := RG r g) (fun _ e => .inl e)).drew.trans ho').setCell (p := ⟨w.heap.size + 1, 0, none⟩) (.inr (by show w.heap.size ≤ w.heap.size + 1; omega)) _).setCell (p := ⟨w.heap.size + 1 + 1, 0, none⟩) (.inr (by show w.heap.size ≤ w.heap.size + 1 + 1; omega)) _
          have nv : ∀ k t cs, Box u1 k t cs → t ≠ 5 → v.ownBlock ≠ some k := fun k t cs hb ht => owns_box hR'.own hb (fun e => ht e.symm)
          have v6 := nv _ _ _ (B6.out.only ho' (by rintro (e | e); exact M1.out e; exact M2.out e)) (by decide)
          have v7 := nv _ _ _ (B7.out.only ho' (by rintro (e | e); exact O1.out e; exact O2.out e)) (by decide)
          have rF := hR'.keep (F := fun k => k = w.heap.size + 1 ∨ k = w.heap.size + 1 + 1) (((Only.refl (fun k => k = w.heap.size + 1 ∨ k = w.heap.size + 1 + 1) u1).setCell (p := ⟨w.heap.size + 1, 0, none⟩) (.inl (.inl rfl)) (iv pN)).setCell (p := ⟨w.heap.size + 1 + 1, 0, none⟩) (.inl (.inr rfl)) (iv 0)) (by rintro (e | e); exact M1.out e.symm; exact O1.out e.symm) (by rintro q hq (e | e); exact v6 (by rw [hq, e]); exact v7 (by rw [hq, e]))
          have gF := (hG'.off (p := ⟨w.heap.size + 1, 0, none⟩) (by show g ≠ w.heap.size + 1; omega) (iv pN)).off (p := ⟨w.heap.size + 1 + 1, 0, none⟩) (by show g ≠ w.heap.size + 1 + 1; omega) (iv 0)
          have HoF := Lib.hid oF
          have HrF := Lib.hid rF
          have HgF := Lib.hid gF
          clear oF rF gF nv v6 v7 hR' hG' ho'
          go_wp2
          refine bodyPost_ret (v := .tuple #[iv pN, iv 0, iv FEv]) ?_ rfl ?_
          · simp [results, Tryz.f128, go_sem, y6, y7]
          refine ⟨pN, 0, FEv, a', xs', rfl, hl', HrF.out, HgF.out, HoF.out, ?_, by unfold rpT; rw [if_neg (by rw [HTE.out]; simp), if_pos (by rw [HpN.out]; exact Hraw.out), HpN.out, HaN.out, HFE.out]⟩
          rcases fE_err (rcX bs pN) (fun a => rcX_err bs pN a (by omega)) n aN with h0 | h0
          · obtain ⟨h1, h2⟩ := Hfin.out h0
            refine .inl ⟨by rw [← HFE.out]; exact h0, _, ⟨HTE.out, .inl ⟨?_, ?_, rfl, ?_, rfl, ?_⟩⟩, ?_⟩
            · rw [HpN.out]; exact Hraw.out
            · rw [HpN.out]
            · rw [HpN.out, HaN.out]; exact h0
            · rw [HpN.out, HaN.out]; exact h1
            · rw [HpN.out, HaN.out]; exact h2
          · refine .inr ⟨by rw [← HFE.out]; exact h0, ?_⟩
            rintro p' wd' ys' a2 ⟨_, ⟨_, _, _, hz, _⟩ | ⟨hz, _⟩⟩
            · rw [HpN.out, HaN.out] at hz; omega
            · rw [HpN.out] at hz; exact Hraw.out hz
    · have hb : (TE != 0) = true := by simpa using hTE0
      have e11 : TE = 11 := by
        rcases Htc.out with h | h
        · exact absurd h hTE0
        · exact h
      subst e11
      obtain ⟨z1, z2, z3, z6, z7⟩ := part_end (w := w) 0 0 R2.out G2.out D1.out D2.out (OW.out.mono (fun _ e => .inl e)) hrw hgw
      have Z1 := Lib.hid z1
      have Z2 := Lib.hid z2
      have Z3 := Lib.hid z3
      clear z1 z2 z3 R2 G2 D0 D1 D2 OW HTp Htc
      go_wp2
      refine bodyPost_ret (v := .tuple #[iv 0, iv 0, iv 11]) ?_ rfl ?_
      · simp [results, Tryz.f128, go_sem, z6, z7]
      refine ⟨0, 0, 11, _, xs, rfl, rfl, Z1.out, Z2.out, Z3.out, .inr ⟨.inr rfl, ?_⟩, by unfold rpT; rw [if_pos (by rw [HTE.out]; decide)]⟩
      rintro p' wd' ys' a2 ⟨hz, _⟩
      rw [HTE.out] at hz
      omega
end Go.Proofs.YteklfkpeaadinaaGreatDoor
