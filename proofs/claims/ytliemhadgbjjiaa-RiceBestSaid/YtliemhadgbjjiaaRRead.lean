/-
  readCoded, the two closures of readPart, fill.
-/
import Derived.Test.YtliemhadgbjjiaaRWrite
namespace Go.Proofs.Ytliemhadgbjjiaa
open Go.RowKit

/-- one number read: it, its error, where the Reader stands then -/
abbrev Rx := Int × Int × Nat
/-- readCoded's answer -/
def rcX (bs : List Nat) (p a : Nat) : Rx :=
  if unaryE bs a ≠ 0 then (0, unaryE bs a, unaryA bs a) else
  if 65536 < unaryR bs a then (0, 10, unaryA bs a) else
  if takeE bs (unaryA bs a) (p : Int) ≠ 0 then (0, takeE bs (unaryA bs a) (p : Int), takeA bs (unaryA bs a) (p : Int)) else
  if isR (ufd ((unaryR bs a).toNat * 2 ^ p + numAt bs (unaryA bs a) p)) then (ufd ((unaryR bs a).toNat * 2 ^ p + numAt bs (unaryA bs a) p), 0, unaryA bs a + p) else (0, 10, unaryA bs a + p)
/-- Signed's answer -/
def sgX (bs : List Nat) (wd a : Nat) : Rx := (signR bs a wd, takeE bs a wd, takeA bs a wd)
/-- numbers read one behind the other: the first error, the numbers, the place -/
def fE (f : Nat → Rx) : Nat → Nat → Int
  | 0, _ => 0
  | n + 1, a => if (f a).2.1 ≠ 0 then (f a).2.1 else fE f n (f a).2.2
def fV (f : Nat → Rx) : Nat → Nat → List Int
  | 0, _ => []
  | n + 1, a => (f a).1 :: fV f n (f a).2.2
def fA (f : Nat → Rx) : Nat → Nat → Nat
  | 0, a => a
  | n + 1, a => fA f n (f a).2.2
theorem fV_len (f : Nat → Rx) : ∀ n a, (fV f n a).length = n
  | 0, _ => rfl
  | n + 1, a => by rw [fV, List.length_cons, fV_len f n]
theorem unaryR_nat (bs : List Nat) (a : Nat) : 0 ≤ unaryR bs a := by unfold unaryR; split <;> omega

set_option maxHeartbeats 2000000 in
theorem readCoded_any {w : World} {r : Nat} {v : Value} {bs : List Nat} {a : Nat} (h : Rd w r v bs a) (p : Nat) (hp : p ≤ 30) :
    Calls Try.prog 75 #[.pointer (some ⟨r, 0, none⟩), iv p] w fun e w' => e = two (rcX bs p a).1 (rcX bs p a).2.1 ∧ Rd w' r v bs (rcX bs p a).2.2 ∧ Only (Just r) w w' := by
  have Hu := Lib.hid (runary_any h)
  clear h
  by_cases h1 : unaryE bs a = 0
  · have hr0 := unaryR_nat bs a
    by_cases h2 : 65536 < unaryR bs a
    · have e1 : rcX bs p a = (0, 10, unaryA bs a) := by unfold rcX; rw [if_neg (by simpa using h1), if_pos h2]
      rw [e1]
      rw [h1] at Hu
      clear e1 h1
      generalize unaryR bs a = U at *
      generalize unaryA bs a = a1 at *
      go_enter Try.func75, Try.ntmps75
      go_wp2_with fail
      refine (Hu.out).mono ?_
      rintro e w1 ⟨rfl, hR, ho⟩
      go_wp2
      go_ret2
      exact ⟨rfl, hR, ho⟩
    · rw [h1] at Hu
      obtain ⟨u, hu⟩ := Int.eq_ofNat_of_zero_le hr0
      by_cases h3 : takeE bs (unaryA bs a) (p : Int) = 0
      · obtain ⟨mm, e0, hm48, hma, eR, eA⟩ := takeR_pos h3
        obtain rfl : p = mm := by omega
        have hnl := numAt_lt bs (unaryA bs a) p
        have e1 : rcX bs p a = if isR (ufd (u * 2 ^ p + numAt bs (unaryA bs a) p)) then (ufd (u * 2 ^ p + numAt bs (unaryA bs a) p), 0, unaryA bs a + p) else (0, 10, unaryA bs a + p) := by
          unfold rcX
          rw [if_neg (by simpa using h1), if_neg h2, if_neg (by simpa using h3), hu]
          rfl
        rw [hu] at Hu h2
        have Ht : Hid (∀ w1, Rd w1 r v bs (unaryA bs a) → Calls Try.prog 72 #[.pointer (some ⟨r, 0, none⟩), iv p] w1 fun e w' => e = two (numAt bs (unaryA bs a) p : Int) 0 ∧ Rd w' r v bs (unaryA bs a + p) ∧ Only (Just r) w1 w') := Lib.hid (fun w1 hw1 => take_ok hw1 p hm48 hma)
        have hup : u * 2 ^ p ≤ 70368744177664 := Nat.le_trans (Nat.mul_le_mul (show u ≤ 65536 by omega) (pow_le_of hp)) (by decide)
        have hnl2 : numAt bs (unaryA bs a) p < 1073741824 := Nat.lt_of_lt_of_le hnl (Nat.le_trans (pow_le_of hp) (by decide))
        have hsh : wrap64 ((u : Int) * 2 ^ p) = ((u * 2 ^ p : Nat) : Int) := by
          rw [pow_cast, ← Int.natCast_mul]
          exact w64 _ (by omega) (by omega)
        have hja : u * 2 ^ p < 2 ^ 62 := Nat.lt_of_le_of_lt hup (by decide)
        have hjb : numAt bs (unaryA bs a) p < 2 ^ 62 := Nat.lt_trans hnl2 (by decide)
        have hjc : u * 2 ^ p % 2 ^ p = 0 := Nat.mul_mod_left u (2 ^ p)
        have hjn := i64_join (u * 2 ^ p) (numAt bs (unaryA bs a) p) p hja hnl hjb hjc
        clear hja hjb hjc
        have HUn : ∀ w1, Hid (Calls Try.prog 83 #[iv (u * 2 ^ p + numAt bs (unaryA bs a) p : Nat)] w1 fun e w' => e = .returned (iv (ufd (u * 2 ^ p + numAt bs (unaryA bs a) p))) ∧ w1 = w') := fun w1 => Lib.hid (unfold_any w1 _ (Nat.lt_of_le_of_lt (Nat.add_le_add hup (Nat.le_of_lt hnl2)) (by decide)))
        clear h1 h3 eR eA hm48 hma hup hnl hnl2 e0
        generalize unaryA bs a = a1 at *
        obtain ⟨M, hM⟩ : ∃ M, u * 2 ^ p + numAt bs a1 p = M := ⟨_, rfl⟩
        rw [hM] at e1 hjn
        simp only [hM] at HUn
        clear hM
        obtain ⟨low, hlow⟩ : ∃ low, numAt bs a1 p = low := ⟨_, rfl⟩
        rw [hlow] at hjn
        simp only [hlow] at Ht
        clear hlow
        obtain ⟨UP, hUP⟩ : ∃ UP, u * 2 ^ p = UP := ⟨_, rfl⟩
        rw [hUP] at hsh hjn
        clear hUP
        obtain ⟨x, hx⟩ : ∃ x, ufd M = x := ⟨_, rfl⟩
        rw [hx] at e1
        simp only [hx] at HUn
        clear hx
        have Hsh := Lib.hid hsh
        have Hjn := Lib.hid hjn
        clear hsh hjn
        have h2' : ¬ (65536 < (u : Int)) := by omega
        have hsh := Hsh.out
        have hjn := Hjn.out
        by_cases h4 : isR x
        · rw [if_pos h4] at e1
          rw [e1]
          have HI : ∀ w1, Hid (Calls Try.prog 54 #[iv x] w1 fun e w' => e = .returned (.bool true) ∧ w1 = w') := fun w1 => Lib.hid (by have := isResidual_any w1 x; rw [decide_eq_true h4] at this; exact this)
          clear h4 e1
          go_enter Try.func75, Try.ntmps75
          go_wp2_with fail
          refine (Hu.out).mono ?_
          rintro e w1 ⟨rfl, hR, ho⟩
          go_wp2_with fail
          refine (Ht.out w1 hR).mono ?_
          rintro e w2 ⟨rfl, hR2, ho2⟩
          go_wp2_with fail
          refine ((HUn w2).out).mono ?_
          rintro e w3 ⟨rfl, rfl⟩
          go_wp2_with fail
          refine ((HI w2).out).mono ?_
          rintro e w3 ⟨rfl, rfl⟩
          go_wp2
          go_ret2
          exact ⟨rfl, hR2, ho.trans ho2⟩
        · rw [if_neg h4] at e1
          rw [e1]
          have HI : ∀ w1, Hid (Calls Try.prog 54 #[iv x] w1 fun e w' => e = .returned (.bool false) ∧ w1 = w') := fun w1 => Lib.hid (by have := isResidual_any w1 x; rw [decide_eq_false h4] at this; exact this)
          clear h4 e1
          go_enter Try.func75, Try.ntmps75
          go_wp2_with fail
          refine (Hu.out).mono ?_
          rintro e w1 ⟨rfl, hR, ho⟩
          go_wp2_with fail
          refine (Ht.out w1 hR).mono ?_
          rintro e w2 ⟨rfl, hR2, ho2⟩
          go_wp2_with fail
          refine ((HUn w2).out).mono ?_
          rintro e w3 ⟨rfl, rfl⟩
          go_wp2_with fail
          refine ((HI w2).out).mono ?_
          rintro e w3 ⟨rfl, rfl⟩
          go_wp2
          go_ret2
          exact ⟨rfl, hR2, ho.trans ho2⟩
      · have e1 : rcX bs p a = (0, takeE bs (unaryA bs a) (p : Int), takeA bs (unaryA bs a) (p : Int)) := by unfold rcX; rw [if_neg (by simpa using h1), if_neg h2, if_pos h3]
        rw [e1]
        rw [hu] at Hu h2
        have Ht : Hid (∀ w1, Rd w1 r v bs (unaryA bs a) → Calls Try.prog 72 #[.pointer (some ⟨r, 0, none⟩), iv p] w1 fun e w' => e = two (takeR bs (unaryA bs a) p) (takeE bs (unaryA bs a) p) ∧ Rd w' r v bs (takeA bs (unaryA bs a) p) ∧ Only (Just r) w1 w') := Lib.hid (fun w1 hw1 => take_any hw1 p)
        have h3b : (takeE bs (unaryA bs a) (p : Int) != 0) = true := by simpa using h3
        clear e1 h1
        generalize unaryA bs a = a1 at *
        generalize takeA bs a1 (p : Int) = a2 at *
        generalize takeE bs a1 (p : Int) = E at *
        generalize takeR bs a1 (p : Int) = R at *
        have h2' : ¬ (65536 < (u : Int)) := by omega
        go_enter Try.func75, Try.ntmps75
        go_wp2_with fail
        refine (Hu.out).mono ?_
        rintro e w1 ⟨rfl, hR, ho⟩
        go_wp2_with fail
        refine (Ht.out w1 hR).mono ?_
        rintro e w2 ⟨rfl, hR2, ho2⟩
        go_wp2
        go_ret2
        exact ⟨rfl, hR2, ho.trans ho2⟩
  · have e1 : rcX bs p a = (0, unaryE bs a, unaryA bs a) := by unfold rcX; rw [if_pos h1]
    rw [e1]
    have h1b : (unaryE bs a != 0) = true := by simpa using h1
    clear e1
    generalize unaryR bs a = U at *
    generalize unaryA bs a = a1 at *
    generalize unaryE bs a = E at *
    go_enter Try.func75, Try.ntmps75
    go_wp2_with fail
    refine (Hu.out).mono ?_
    rintro e w1 ⟨rfl, hR, ho⟩
    go_wp2
    go_ret2
    exact ⟨rfl, hR, ho⟩

set_option maxHeartbeats 1000000 in
theorem cloC_any {w : World} {r : Nat} {v : Value} {bs : List Nat} {a : Nat} (hR : Rd w r v bs a) (p cr cp : Nat) (hp : p ≤ 30) (hcr : Box w cr 47 #[.pointer (some ⟨r, 0, none⟩)]) (hcp : Box w cp 3 #[iv p]) :
    Calls Try.prog 74 #[.pointer (some ⟨cr, 0, none⟩), .pointer (some ⟨cp, 0, none⟩)] w fun e w' => e = two (rcX bs p a).1 (rcX bs p a).2.1 ∧ Rd w' r v bs (rcX bs p a).2.2 ∧ Only (Just r) w w' := by
  have HC := Lib.hid (readCoded_any (hR) p hp)
  have d0 := hcr.cell 0
  have d1 := hcp.cell 0
  simp only [List.getElem?_toArray, List.getElem?_cons_zero] at d0 d1
  clear hcr hcp hR
  skip
  generalize (rcX bs p a).1 = X1 at *
  generalize (rcX bs p a).2.1 = X2 at *
  generalize (rcX bs p a).2.2 = X3 at *
  go_enter Try.func74, Try.ntmps74
  go_wp2_with fail
  refine (HC.out).mono ?_
  rintro e w1 ⟨rfl, hR, ho⟩
  go_wp2
  go_ret2
  exact ⟨rfl, hR, ho⟩

set_option maxHeartbeats 1000000 in
theorem cloS_any {w : World} {r : Nat} {v : Value} {bs : List Nat} {a : Nat} (hR : Rd w r v bs a) (p cr cp : Nat) (_ : p ≤ 31) (hcr : Box w cr 47 #[.pointer (some ⟨r, 0, none⟩)]) (hcp : Box w cp 3 #[iv p]) :
    Calls Try.prog 76 #[.pointer (some ⟨cr, 0, none⟩), .pointer (some ⟨cp, 0, none⟩)] w fun e w' => e = two (sgX bs p a).1 (sgX bs p a).2.1 ∧ Rd w' r v bs (sgX bs p a).2.2 ∧ Only (Just r) w w' := by
  have HC := Lib.hid (signed_any hR (p : Int))
  have d0 := hcr.cell 0
  have d1 := hcp.cell 0
  simp only [List.getElem?_toArray, List.getElem?_cons_zero] at d0 d1
  clear hcr hcp hR
  unfold sgX
  dsimp only
  generalize signR bs a (p : Int) = X1 at *
  generalize takeE bs a (p : Int) = X2 at *
  generalize takeA bs a (p : Int) = X3 at *
  go_enter Try.func76, Try.ntmps76
  go_wp2_with fail
  refine (HC.out).mono ?_
  rintro e w1 ⟨rfl, hR, ho⟩
  go_wp2
  go_ret2
  exact ⟨rfl, hR, ho⟩

/-- numbers laid over others -/
def putAt (xs : List Int) (off : Nat) (ys : List Int) : List Int := xs.take off ++ ys ++ xs.drop (off + ys.length)
theorem putAt_nil (xs : List Int) (off : Nat) : putAt xs off [] = xs := by simp [putAt]
theorem putAt_len (xs : List Int) (off : Nat) (ys : List Int) (h : off + ys.length ≤ xs.length) : (putAt xs off ys).length = xs.length := by simp [putAt]; omega
theorem putAt_step (xs : List Int) (off : Nat) (ys : List Int) (x : Int) (h : off + ys.length < xs.length) : (putAt xs off ys).set (off + ys.length) x = putAt xs off (ys ++ [x]) := by
  have h1 : xs.drop (off + ys.length) = xs[off + ys.length] :: xs.drop (off + ys.length + 1) := List.drop_eq_getElem_cons h
  unfold putAt
  have hl : (xs.take off ++ ys).length = off + ys.length := by simp; omega
  rw [h1, List.set_append_right _ _ (by omega), hl, Nat.sub_self, List.set_cons_zero]
  simp [Nat.add_assoc]
def RG (r g k : Nat) : Prop := k = r ∨ k = g
def FillP (w : World) (r : Nat) (v : Value) (bs : List Nat) (g : Nat) (xs : List Int) (off n : Nat) (f : Nat → Rx) (a : Nat) (s10 : Value) (wr : World) : Prop :=
  ∃ (j aj : Nat) (ys : List Int), j ≤ n ∧ s10 = iv j ∧ ys.length = j ∧ fE f n a = fE f (n - j) aj ∧ fV f n a = ys ++ fV f (n - j) aj ∧ fA f n a = fA f (n - j) aj ∧ Rd wr r v bs aj ∧ Box wr g 3 ((putAt xs off ys).map iv).toArray ∧ Only (RG r g) w wr

set_option maxHeartbeats 2000000 in
theorem fillC_any {w : World} {r : Nat} {v : Value} {bs : List Nat} {a : Nat} (hR : Rd w r v bs a) (p cr cp g off n c : Nat) (hp : p ≤ 30) (hcr : Box w cr 47 #[.pointer (some ⟨r, 0, none⟩)]) (hcp : Box w cp 3 #[iv p])
    (xs : List Int) (hg : Box w g 3 (xs.map iv).toArray) (hgc : g ≠ cp) (hn : off + n ≤ xs.length) (hn6 : n ≤ 65535) :
    Calls Try.prog 73 #[.slice (some ⟨g, off, none⟩) n c, .func (.func 74) #[] #[.pointer (some ⟨cr, 0, none⟩), .pointer (some ⟨cp, 0, none⟩)]] w fun e w' =>
      e = .returned (iv (fE (rcX bs p) n a)) ∧ ∃ a' xs', xs'.length = xs.length ∧ Rd w' r v bs a' ∧ Box w' g 3 (xs'.map iv).toArray ∧ Only (RG r g) w w' ∧ (fE (rcX bs p) n a = 0 → a' = fA (rcX bs p) n a ∧ xs' = putAt xs off (fV (rcX bs p) n a)) := by
  have hgr : g ≠ r := fun e => by subst e; exact Box.type_ne hg hR.box (by decide) rfl
  have hgcr : cr ≠ g := fun e => by subst e; exact Box.type_ne hg hcr (by decide) rfl
  have hrcr : cr ≠ r := fun e => by subst e; exact Box.type_ne hcr hR.box (by decide) rfl
  have hrcp : cp ≠ r := fun e => by subst e; exact Box.type_ne hcp hR.box (by decide) rfl
  have hvg : v.ownBlock ≠ some g := owns_box hR.own hg (by decide)
  have HR := Lib.hid hR
  have HG := Lib.hid hg
  have Hcr := Lib.hid hcr
  have Hcp := Lib.hid hcp
  clear hR hg hcr hcp
  go_enter Try.func73, Try.ntmps73
  go_wp2
  go_loopw [10] (fun s10 wr => FillP w r v bs g xs off n (rcX bs p) a s10 wr) (fun s10 _ => n - (intOf s10).toNat)
  case atStart => exact ⟨0, a, [], Nat.zero_le _, rfl, rfl, rfl, rfl, rfl, HR.out, by rw [putAt_nil]; exact HG.out, Only.refl _ _⟩
  case round =>
    obtain ⟨j, aj, ys, hj, rfl, hys, k1, k2, k3, hRj, hBj, hOj⟩ := hrel
    by_cases hlt : j < n
    · obtain ⟨d, hd⟩ : ∃ d, n - j = d + 1 := ⟨n - j - 1, by omega⟩
      have hd2 : n - (j + 1) = d := by omega
      rw [hd] at k1 k2 k3
      have HC := Lib.hid (cloC_any hRj p cr cp hp (Hcr.out.only hOj (by rintro (e | e); exact hrcr e; exact hgcr e)) (Hcp.out.only hOj (by rintro (e | e); exact hrcp e; exact hgc e.symm)))
      have hlt2 : (j : Int) < (n : Int) := by omega
      have HS := Lib.hid (putAt_step xs off ys ((rcX bs p) aj).1 (by omega))
      have hcell : ∀ u, Only (Just r) wr u → Hid (Box u g 3 ((putAt xs off ys).map iv).toArray) := fun u hu => Lib.hid (hBj.only hu (fun e => hgr e))
      have Hpl := Lib.hid (putAt_len xs off ys (by omega))
      have Hk : Hid (fE (rcX bs p) n a = fE (rcX bs p) (d + 1) aj ∧ fV (rcX bs p) n a = ys ++ fV (rcX bs p) (d + 1) aj ∧ fA (rcX bs p) n a = fA (rcX bs p) (d + 1) aj) := Lib.hid ⟨k1, k2, k3⟩
      have HOj := Lib.hid hOj
      have Hys := Lib.hid hys
      clear k1 k2 k3 hOj hys hRj hBj hd
      obtain ⟨⟨x, E, aq⟩, hX⟩ : ∃ t : Rx, (rcX bs p) aj = t := ⟨_, rfl⟩
      have HX := Lib.hid hX
      rw [hX] at HC HS
      dsimp only at HC HS
      clear hX
      by_cases hE : E = 0
      · subst hE
        go_wp2_with fail
        refine (HC.out).mono ?_
        rintro e w1 ⟨rfl, hR1, ho1⟩
        have Hb1 := hcell w1 ho1
        have hc1 : ∃ z, w1.cell? ⟨g, off + j, none⟩ = some (iv z) := by
          have hlz : off + j < (putAt xs off ys).length := by rw [Hpl.out]; omega
          refine ⟨(putAt xs off ys)[off + j], ?_⟩
          rw [Hb1.out.cell]
          simp [hlz]
        obtain ⟨z, hc1⟩ := hc1
        have hf1 := Hb1.out.frozen (off + j)
        clear hcell
        go_wp2
        go_roundw
        case rel =>
          refine ⟨j + 1, aq, ys ++ [x], by omega, by go_num, by rw [List.length_append, Hys.out]; rfl, ?_, ?_, ?_, ?_, ?_, ?_⟩
          · rw [Hk.out.1, fE, HX.out, if_neg (by simp), hd2]
          · rw [Hk.out.2.1, fV, HX.out, hd2, List.append_assoc]; rfl
          · rw [Hk.out.2.2, fA, HX.out, hd2]
          · exact (hR1.keep (F := Just g) ((Only.refl (Just g) w1).setCell (p := ⟨g, off + j, none⟩) (.inl rfl) _) (fun e => hgr e.symm) (fun q hq e => hvg (by rw [hq]; exact congrArg some e)))
          · have := Hb1.out.put (off + j) (iv x)
            rw [← HS.out, Hys.out]
            rw [List.setIfInBounds_toArray] at this
            rw [List.map_set]
            exact this
          · exact ((HOj.out.then ho1 (fun i e => .inl (.inl e))).setCell (p := ⟨g, off + j, none⟩) (.inl (.inr rfl)) _)
        case measure => simp [intOf]; omega
      · have hE2 : (E != 0) = true := by simpa using hE
        go_wp2_with fail
        refine (HC.out).mono ?_
        rintro e w1 ⟨rfl, hR1, ho1⟩
        go_wp2
        go_ret
        have hfe : fE (rcX bs p) n a = E := by rw [Hk.out.1, fE, HX.out, if_pos hE]
        exact ⟨by rw [hfe]; rfl, aq, putAt xs off ys, Hpl.out, hR1, (hcell w1 ho1).out, HOj.out.then ho1 (fun i e => .inl (.inl e)), fun e => absurd (hfe.symm.trans e) hE⟩
    · obtain rfl : j = n := by omega
      have hlt2 : decide (j < j) = false := by simp
      rw [Nat.sub_self] at k1 k2 k3
      have Hk : Hid (fE (rcX bs p) j a = 0 ∧ fV (rcX bs p) j a = ys ∧ fA (rcX bs p) j a = aj) := Lib.hid ⟨k1, by rw [k2, fV, List.append_nil], k3⟩
      have Hpl := Lib.hid (putAt_len xs off ys (by omega))
      clear k1 k2 k3
      go_wp2
      go_ret
      exact ⟨by rw [Hk.out.1]; rfl, aj, putAt xs off ys, Hpl.out, hRj, hBj, hOj, fun _ => ⟨Hk.out.2.2.symm, by rw [Hk.out.2.1]⟩⟩

set_option maxHeartbeats 2000000 in
theorem fillS_any {w : World} {r : Nat} {v : Value} {bs : List Nat} {a : Nat} (hR : Rd w r v bs a) (p cr cp g off n c : Nat) (hp : p ≤ 31) (hcr : Box w cr 47 #[.pointer (some ⟨r, 0, none⟩)]) (hcp : Box w cp 3 #[iv p])
    (xs : List Int) (hg : Box w g 3 (xs.map iv).toArray) (hgc : g ≠ cp) (hn : off + n ≤ xs.length) (hn6 : n ≤ 65535) :
    Calls Try.prog 73 #[.slice (some ⟨g, off, none⟩) n c, .func (.func 76) #[] #[.pointer (some ⟨cr, 0, none⟩), .pointer (some ⟨cp, 0, none⟩)]] w fun e w' =>
      e = .returned (iv (fE (sgX bs p) n a)) ∧ ∃ a' xs', xs'.length = xs.length ∧ Rd w' r v bs a' ∧ Box w' g 3 (xs'.map iv).toArray ∧ Only (RG r g) w w' ∧ (fE (sgX bs p) n a = 0 → a' = fA (sgX bs p) n a ∧ xs' = putAt xs off (fV (sgX bs p) n a)) := by
  have hgr : g ≠ r := fun e => by subst e; exact Box.type_ne hg hR.box (by decide) rfl
  have hgcr : cr ≠ g := fun e => by subst e; exact Box.type_ne hg hcr (by decide) rfl
  have hrcr : cr ≠ r := fun e => by subst e; exact Box.type_ne hcr hR.box (by decide) rfl
  have hrcp : cp ≠ r := fun e => by subst e; exact Box.type_ne hcp hR.box (by decide) rfl
  have hvg : v.ownBlock ≠ some g := owns_box hR.own hg (by decide)
  have HR := Lib.hid hR
  have HG := Lib.hid hg
  have Hcr := Lib.hid hcr
  have Hcp := Lib.hid hcp
  clear hR hg hcr hcp
  go_enter Try.func73, Try.ntmps73
  go_wp2
  go_loopw [10] (fun s10 wr => FillP w r v bs g xs off n (sgX bs p) a s10 wr) (fun s10 _ => n - (intOf s10).toNat)
  case atStart => exact ⟨0, a, [], Nat.zero_le _, rfl, rfl, rfl, rfl, rfl, HR.out, by rw [putAt_nil]; exact HG.out, Only.refl _ _⟩
  case round =>
    obtain ⟨j, aj, ys, hj, rfl, hys, k1, k2, k3, hRj, hBj, hOj⟩ := hrel
    by_cases hlt : j < n
    · obtain ⟨d, hd⟩ : ∃ d, n - j = d + 1 := ⟨n - j - 1, by omega⟩
      have hd2 : n - (j + 1) = d := by omega
      rw [hd] at k1 k2 k3
      have HC := Lib.hid (cloS_any hRj p cr cp hp (Hcr.out.only hOj (by rintro (e | e); exact hrcr e; exact hgcr e)) (Hcp.out.only hOj (by rintro (e | e); exact hrcp e; exact hgc e.symm)))
      have hlt2 : (j : Int) < (n : Int) := by omega
      have HS := Lib.hid (putAt_step xs off ys ((sgX bs p) aj).1 (by omega))
      have hcell : ∀ u, Only (Just r) wr u → Hid (Box u g 3 ((putAt xs off ys).map iv).toArray) := fun u hu => Lib.hid (hBj.only hu (fun e => hgr e))
      have Hpl := Lib.hid (putAt_len xs off ys (by omega))
      have Hk : Hid (fE (sgX bs p) n a = fE (sgX bs p) (d + 1) aj ∧ fV (sgX bs p) n a = ys ++ fV (sgX bs p) (d + 1) aj ∧ fA (sgX bs p) n a = fA (sgX bs p) (d + 1) aj) := Lib.hid ⟨k1, k2, k3⟩
      have HOj := Lib.hid hOj
      have Hys := Lib.hid hys
      clear k1 k2 k3 hOj hys hRj hBj hd
      obtain ⟨⟨x, E, aq⟩, hX⟩ : ∃ t : Rx, (sgX bs p) aj = t := ⟨_, rfl⟩
      have HX := Lib.hid hX
      rw [hX] at HC HS
      dsimp only at HC HS
      clear hX
      by_cases hE : E = 0
      · subst hE
        go_wp2_with fail
        refine (HC.out).mono ?_
        rintro e w1 ⟨rfl, hR1, ho1⟩
        have Hb1 := hcell w1 ho1
        have hc1 : ∃ z, w1.cell? ⟨g, off + j, none⟩ = some (iv z) := by
          have hlz : off + j < (putAt xs off ys).length := by rw [Hpl.out]; omega
          refine ⟨(putAt xs off ys)[off + j], ?_⟩
          rw [Hb1.out.cell]
          simp [hlz]
        obtain ⟨z, hc1⟩ := hc1
        have hf1 := Hb1.out.frozen (off + j)
        clear hcell
        go_wp2
        go_roundw
        case rel =>
          refine ⟨j + 1, aq, ys ++ [x], by omega, by go_num, by rw [List.length_append, Hys.out]; rfl, ?_, ?_, ?_, ?_, ?_, ?_⟩
          · rw [Hk.out.1, fE, HX.out, if_neg (by simp), hd2]
          · rw [Hk.out.2.1, fV, HX.out, hd2, List.append_assoc]; rfl
          · rw [Hk.out.2.2, fA, HX.out, hd2]
          · exact (hR1.keep (F := Just g) ((Only.refl (Just g) w1).setCell (p := ⟨g, off + j, none⟩) (.inl rfl) _) (fun e => hgr e.symm) (fun q hq e => hvg (by rw [hq]; exact congrArg some e)))
          · have := Hb1.out.put (off + j) (iv x)
            rw [← HS.out, Hys.out]
            rw [List.setIfInBounds_toArray] at this
            rw [List.map_set]
            exact this
          · exact ((HOj.out.then ho1 (fun i e => .inl (.inl e))).setCell (p := ⟨g, off + j, none⟩) (.inl (.inr rfl)) _)
        case measure => simp [intOf]; omega
      · have hE2 : (E != 0) = true := by simpa using hE
        go_wp2_with fail
        refine (HC.out).mono ?_
        rintro e w1 ⟨rfl, hR1, ho1⟩
        go_wp2
        go_ret
        have hfe : fE (sgX bs p) n a = E := by rw [Hk.out.1, fE, HX.out, if_pos hE]
        exact ⟨by rw [hfe]; rfl, aq, putAt xs off ys, Hpl.out, hR1, (hcell w1 ho1).out, HOj.out.then ho1 (fun i e => .inl (.inl e)), fun e => absurd (hfe.symm.trans e) hE⟩
    · obtain rfl : j = n := by omega
      have hlt2 : decide (j < j) = false := by simp
      rw [Nat.sub_self] at k1 k2 k3
      have Hk : Hid (fE (sgX bs p) j a = 0 ∧ fV (sgX bs p) j a = ys ∧ fA (sgX bs p) j a = aj) := Lib.hid ⟨k1, by rw [k2, fV, List.append_nil], k3⟩
      have Hpl := Lib.hid (putAt_len xs off ys (by omega))
      clear k1 k2 k3
      go_wp2
      go_ret
      exact ⟨by rw [Hk.out.1]; rfl, aj, putAt xs off ys, Hpl.out, hRj, hBj, hOj, fun _ => ⟨Hk.out.2.2.symm, by rw [Hk.out.2.1]⟩⟩
end Go.Proofs.Ytliemhadgbjjiaa
