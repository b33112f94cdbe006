/-
  Restoring, in plain mathematics.
-/
import Derived.Test.YteklfkpeaadinaaGreatDoorPBG19
import Derived.Laws.CopyOwn
namespace Go.Proofs.YteklfkpeaadinaaGreatDoor.K
open Go.RowKit

/-- the samples that the first residuals tell -/
def curK (s : Nat) (cs first l : List Int) : Nat → List Int
  | 0 => first
  | k + 1 => curK s cs first l k ++ [tld s cs (curK s cs first l k) (first.length + k) + l.getD k 0]
theorem curK_len (s : Nat) (cs first l : List Int) (k : Nat) : (curK s cs first l k).length = first.length + k := by
  induction k with
  | zero => rfl
  | succ k ih => simp only [curK, List.length_append, ih, List.length_cons, List.length_nil]; omega
theorem curK_take (s : Nat) (cs first l : List Int) (k m : Nat) : (curK s cs first l (k + m)).take (first.length + k) = curK s cs first l k := by
  induction m with
  | zero => rw [List.take_of_length_le (by rw [Nat.add_zero, curK_len]; exact Nat.le_refl _)]; rfl
  | succ m ih =>
    rw [show k + (m + 1) = (k + m) + 1 by omega]
    simp only [curK]
    rw [List.take_append_of_le_length (by rw [curK_len]; omega)]
    exact ih
theorem curK_take' (s : Nat) (cs first l : List Int) {k n : Nat} (h : k ≤ n) : (curK s cs first l n).take (first.length + k) = curK s cs first l k := by
  have := curK_take s cs first l k (n - k)
  rwa [show k + (n - k) = n by omega] at this
/-- each sample is what is told of it, and its residual -/
theorem curK_at (s : Nat) (cs first l : List Int) {k n : Nat} (h : k < n) (hc : cs.length ≤ first.length) :
    (curK s cs first l n).getD (first.length + k) 0 = tld s cs (curK s cs first l n) (first.length + k) + l.getD k 0 := by
  have h1 := curK_take' s cs first l (show k + 1 ≤ n by omega)
  have h2 := curK_take' s cs first l (show k ≤ n by omega)
  have h3 : (curK s cs first l n).getD (first.length + k) 0 = (curK s cs first l (k + 1)).getD (first.length + k) 0 := by
    rw [← h1, take_getD _ _ _ (by omega)]
  rw [h3]
  have h4 : (curK s cs first l (k + 1)).getD (first.length + k) 0 = tld s cs (curK s cs first l k) (first.length + k) + l.getD k 0 := by
    simp only [curK]
    rw [List.getD_eq_getElem?_getD, List.getElem?_append_right (by rw [curK_len]; exact Nat.le_refl _), curK_len]
    simp
  rw [h4, tld_congr s cs (curK s cs first l k) (curK s cs first l n) (first.length + k) (by omega) (fun i hi => by rw [← h2, take_getD _ _ _ hi])]
theorem curK_first (s : Nat) (cs first l : List Int) (n : Nat) : (curK s cs first l n).take first.length = first := by
  have := curK_take' s cs first l (Nat.zero_le n)
  rwa [Nat.add_zero] at this
/-- what is wrong with samples to be restored -/
def rstE (P S : Int) (cs first l : List Int) : Int := if okL P S cs then (if first.length ≠ cs.length then 1 else if ∀ x ∈ curK S.toNat cs first l l.length, isS x then 0 else 10) else 10
def rstV (P S : Int) (cs first l : List Int) : List Int := if rstE P S cs first l = 0 then curK S.toNat cs first l l.length else []
theorem rstE_zero {P S : Int} {cs first l : List Int} (h : rstE P S cs first l = 0) : okL P S cs ∧ first.length = cs.length ∧ (∀ x ∈ curK S.toNat cs first l l.length, isS x) := by
  unfold rstE at h
  by_cases h1 : okL P S cs
  · rw [if_pos h1] at h
    by_cases h2 : first.length = cs.length
    · rw [if_neg (by omega)] at h
      by_cases h3 : ∀ x ∈ curK S.toNat cs first l l.length, isS x
      · exact ⟨h1, h2, h3⟩
      · rw [if_neg h3] at h; omega
    · rw [if_pos h2] at h; omega
  · rw [if_neg h1] at h; omega
/-- a sum that wraps round is no sample -/
theorem wrap_isS {t d : Int} (ht : -2251799813685248 ≤ t ∧ t ≤ 2251799813685248) (hd : -9223372036854775808 ≤ d ∧ d ≤ 9223372036854775807) :
    (isS (wrap64 (t + d)) ↔ isS (t + d)) ∧ (isS (t + d) → wrap64 (t + d) = t + d) := by
  unfold isS wrap64
  omega
/-- what Restore answers -/
def RstR (w : World) (P S : Int) (cs first l : List Int) (e : Ending) (w' : World) : Prop :=
  (∃ A c, e = .returned (.tuple #[.slice A (rstV P S cs first l).length c, iv (rstE P S cs first l)]) ∧ ISrc w' (.slice A (rstV P S cs first l).length c) (rstV P S cs first l)) ∧ Only Nix w w'
theorem RstR.bad {w w' : World} {P S : Int} {cs first l : List Int} {E : Int} (hE : rstE P S cs first l = E) (h0 : E ≠ 0) (ho : Only Nix w w') : RstR w P S cs first l (.returned (.tuple #[.slice none 0 0, iv E])) w' := by
  have hv : rstV P S cs first l = [] := if_neg (by rw [hE]; exact h0)
  refine ⟨⟨none, 0, by rw [hv, hE]; rfl, ?_⟩, ho⟩
  rw [hv]
  exact isrc_nil w'
/-- the cells on the way -/
def cellsM (X : List Int) (m : Nat) : List Value := (X.take m ++ List.replicate (X.length - m) 0).map iv
theorem cellsM_len (X : List Int) (m : Nat) (h : m ≤ X.length) : (cellsM X m).length = X.length := by
  unfold cellsM
  rw [List.length_map, List.length_append, List.length_take, List.length_replicate]
  omega
theorem cellsM_set (X : List Int) (m : Nat) (h : m < X.length) : (cellsM X m).toArray.setIfInBounds m (iv (X.getD m 0)) = (cellsM X (m + 1)).toArray := by
  rw [getD_of h]
  unfold cellsM
  rw [List.setIfInBounds_toArray, List.map_append, List.set_append_right _ _ (by simp; omega)]
  congr 1
  have e1 : m - (List.map iv (X.take m)).length = 0 := by simp; omega
  have e2 : X.length - m = (X.length - (m + 1)) + 1 := by omega
  rw [e1, e2, List.replicate_succ, List.map_cons, List.set_cons_zero, List.take_succ_eq_append_getElem h, List.map_append, List.map_append, List.append_assoc]
  rfl
theorem cellsM_all (X : List Int) : cellsM X X.length = X.map iv := by simp [cellsM]
theorem cellsM_at (X : List Int) (m i : Nat) (h : i < m) (hm : m ≤ X.length) : (cellsM X m)[i]? = some (iv (X.getD i 0)) := by
  unfold cellsM
  rw [List.getElem?_map, List.getElem?_append_left (by rw [List.length_take]; omega), List.getElem?_take_of_lt h, List.getElem?_eq_getElem (by omega), getD_of (by omega)]
  rfl
/-- the slice on the way holds the samples so far, and noughts -/
theorem cellsM_isrc {w : World} {g N : Nat} (X : List Int) (m : Nat) (hm : m ≤ X.length) (hN : X.length = N) (h : Box w g 3 (cellsM X m).toArray) (hb : ∀ x ∈ X.take m, isS x) (hs : N ≤ 1000000) : ISrc w (.slice (some ⟨g, 0, none⟩) N N) (X.take m ++ List.replicate (X.length - m) 0) := by
  refine ISrc.of_box h (by rw [List.length_append, List.length_take, List.length_replicate]; omega) (Nat.le_refl _) (by rw [List.length_append, List.length_take, List.length_replicate]; omega) (fun x hx => ?_)
  rcases List.mem_append.1 hx with hx | hx
  · have := hb x hx
    unfold isS at this
    omega
  · rw [List.eq_of_mem_replicate hx]; omega
end Go.Proofs.YteklfkpeaadinaaGreatDoor.K
namespace Go.Proofs.YteklfkpeaadinaaGreatDoor.K
open Go.RowKit

/-- the number is stored, or not yet -/
structure StW (W : World) (g j : Nat) (v : Int) (cs : Array Value) (L : Nat → Bool) (u : World) : Prop where
  only : Only (Just g) W u
  old : L 13 = false → Only Nix W u
  new : L 13 = true → Box u g 3 (cs.setIfInBounds j (iv v))
section
variable {W u u' : World} {g j i : Nat} {v : Int} {cs : Array Value} {L : Nat → Bool}
theorem StW.same (h : StW W g j v cs L u) (hi : 13 ≠ i) : StW W g j v cs (andOne L i) u :=
  ⟨h.only, fun e => h.old (by rwa [andOne_ne hi] at e), fun e => h.new (by rwa [andOne_ne hi] at e)⟩
theorem StW.keep (h : StW W g j v cs L u) (ho : Only Nix u u') (hL : L 13 = false) (hi : 13 ≠ i) : StW W g j v cs (andOne L i) u' :=
  ⟨h.only.trans ho.nix, fun _ => (h.old hL).trans ho, fun e => by rw [andOne_ne hi, hL] at e; cases e⟩
theorem StW.stored (h : StW W g j v cs L u) (hL : L 13 = false) (hB : Box W g 3 cs) : StW W g j v cs (andOne L 13) (u.setCell ⟨g, j, none⟩ (iv v)) :=
  ⟨h.only.setCell (p := ⟨g, j, none⟩) (.inl rfl) _, (fun e => by unfold andOne at e; rw [if_pos rfl] at e; cases e), fun _ => (hB.only (h.old hL) (fun e => e)).put j (iv v)⟩
end
theorem made_ints (n : Nat) : madeCells #[.int .i64 0] n = (List.replicate n (iv 0)).toArray := by
  apply Array.ext
  · simp [madeCells]
  · intro i h1 h2
    simp [madeCells, Nat.mod_one]
theorem Tryz.size_int : (Tryz.prog.info? 3).map (·.size) = some 1 := by kernel_rfl
theorem wrap_is (n : Int) : IntKind.i64.wrap n = wrap64 n := by rw [IntKind.wrap_i64]; unfold wrap64; omega
def RsP (w w2 : World) (g N o : Nat) (X : List Int) (s10 s11 s39 : Value) (wr : World) : Prop :=
  ∃ j : Nat, j ≤ N ∧ s39 = iv j ∧ s10 = .slice (some ⟨g, 0, none⟩) N N ∧ s11 = .int .i64 0 ∧ (∀ x ∈ X.take j, isS x) ∧ Box wr g 3 (cellsM X (max j o)).toArray ∧ Only (Just g) w2 wr ∧ Only Nix w wr
/-- where what is answered lies -/
def RstB (w : World) (P S : Int) (cs fs l : List Int) (e : Ending) (w' : World) : Prop :=
  rstE P S cs fs l = 0 → ∃ g, e = .returned (.tuple #[.slice (some ⟨g, 0, none⟩) (rstV P S cs fs l).length (rstV P S cs fs l).length, iv 0]) ∧ Box w' g 3 ((rstV P S cs fs l).map iv).toArray ∧ w.heap.size ≤ g
/-- both -/
def RstN (w : World) (P S : Int) (cs fs l : List Int) (e : Ending) (w' : World) : Prop := RstR w P S cs fs l e w' ∧ RstB w P S cs fs l e w'
theorem RstB.bad {w w' : World} {P S : Int} {cs fs l : List Int} {E : Int} {e : Ending} (hE : rstE P S cs fs l = E) (h0 : E ≠ 0) : RstB w P S cs fs l e w' := fun h => absurd (hE.symm.trans h) h0
set_option maxRecDepth 100000 in
set_option maxHeartbeats 4000000 in
theorem restore_new {w : World} (P S : Int) (Ac : Option Addr) (nc cc : Nat) (cs : List Int) (Af : Option Addr) (nf cf : Nat) (fs : List Int) (A : Option Addr) (n c : Nat) (l : List Int)
    (hcs : ISrc w (.slice Ac nc cc) cs) (hfs : ISrc w (.slice Af nf cf) fs) (hl : ISrc w (.slice A n c) l) (hn : n ≤ 1000) :
    Calls Tryz.prog 109 #[linV P S (.slice Ac nc cc), .slice Af nf cf, .slice A n c] w fun e w' => RstN w P S cs fs l e w' := by
  have hcl := hcs.len
  have hfl := hfs.len
  have hll := hl.len
  have hsc := hcs.small
  have hsf := hfs.small
  rw [← hcl] at hsc
  rw [← hfl] at hsf
  have a0 := (Only.refl Nix w).alloc (.cells #[iv P, iv S, .slice Ac nc cc] 24)
  have B0 := Box.new w 24 #[iv P, iv S, .slice Ac nc cc]
  obtain ⟨Wa, hWa⟩ : ∃ Wa, w.alloc (.cells #[iv P, iv S, .slice Ac nc cc] 24) = Wa := ⟨_, rfl⟩
  rw [hWa] at a0 B0
  have HCk := Lib.hid (check_any P S Ac nc cc cs (hcs.nix a0))
  have d0 := B0.cell 0
  have d1 := B0.cell 1
  have d2 := B0.cell 2
  simp only [List.getElem?_toArray, List.getElem?_cons_zero, List.getElem?_cons_succ] at d0 d1 d2
  have HA := Lib.hid a0
  have HC := Lib.hid hcs
  have HF := Lib.hid hfs
  have HL := Lib.hid hl
  have Hcl := Lib.hid hcl
  have Hfl := Lib.hid hfl
  have Hll := Lib.hid hll
  clear hcs hfs hl a0 B0 hcl hfl hll
  go_enter Tryz.func109, Tryz.ntmps109
  go_wp2
  go_step3
  by_cases hok : okL P S cs
  · obtain ⟨s, hs⟩ : ∃ s : Nat, S = (s : Int) := ⟨S.toNat, by have := hok.1; omega⟩
    subst hs
    have e0 : ckL P (s : Int) cs = 0 := if_pos hok
    rw [e0] at HCk
    go_wp2_with fail
    refine (HCk.out).mono ?_
    rintro e w1 ⟨rfl, o1⟩
    have c0 := cell_keep o1 d0
    have c1 := cell_keep o1 d1
    have c2 := cell_keep o1 d2
    have HO1 := Lib.hid (HA.out.trans o1)
    clear o1 d0 d1 d2 HCk e0
    have HOK := Lib.hid hok
    clear hok
    by_cases hne : nf = nc
    · have hs15 : s ≤ 15 := by have := HOK.out.1; omega
      have h32 : nc ≤ 32 := by have := HOK.out.1; have := Hcl.out; omega
      subst hne
      obtain ⟨o, ho⟩ : ∃ o, nf = o := ⟨_, rfl⟩
      subst ho
      obtain ⟨N, hN⟩ : ∃ N, nf + n = N := ⟨_, rfl⟩
      have hNi : (nf : Int) + (n : Int) = (N : Int) := by omega
      have hN2 : N ≤ 1100 := by omega
      have hmk := fun (u : World) => run_make_row' (P := Tryz.prog) 22 3 (.int .i64 0) 8 Tryz.underlying22 Tryz.info_int rfl .i64 .i64 N (by omega) (by omega) u
      simp only [made_ints] at hmk
      obtain ⟨X, hX⟩ : ∃ X, curK s cs fs l n = X := ⟨_, rfl⟩
      have hXl : X.length = N := by rw [← hX, curK_len, ← Hfl.out, hN]
      have hXf : X.take nf = fs := by rw [← hX, Hfl.out]; exact curK_first s cs fs l n
      have HXat : Hid (∀ k, k < n → X.getD (nf + k) 0 = tld s cs X (nf + k) + l.getD k 0) := Lib.hid (fun k hk => by
        rw [← hX, Hfl.out]
        exact curK_at s cs fs l hk (by rw [← Hcl.out, ← Hfl.out]; exact Nat.le_refl _))
      have HEE : Hid (rstE P (s : Int) cs fs l = if ∀ x ∈ X, isS x then 0 else 10) := Lib.hid (by
        unfold rstE
        rw [if_pos HOK.out, if_neg (by rw [← Hfl.out, ← Hcl.out]; simp), Int.toNat_natCast, ← Hll.out, hX])
      have HVV : Hid (rstV P (s : Int) cs fs l = if ∀ x ∈ X, isS x then X else []) := Lib.hid (by
        unfold rstV
        rw [HEE.out, Int.toNat_natCast, ← Hll.out, hX]
        by_cases hal : ∀ x ∈ X, isS x
        · rw [if_pos hal, if_pos hal, if_pos rfl]
        · rw [if_neg hal, if_neg hal, if_neg (by decide)])
      have HXl := Lib.hid hXl
      have HXf := Lib.hid hXf
      have HN := Lib.hid hN
      clear hX hXl hXf hN
      have HB1' := Lib.hid (Box.new w1 3 (List.replicate N (iv 0)).toArray)
      have a1 := (Only.refl Nix w1).alloc (.cells (List.replicate N (iv 0)).toArray 3)
      have HA1 := Lib.hid a1
      have HRl : Hid ((List.replicate N (iv 0)).length = N) := Lib.hid (by simp)
      obtain ⟨ZS, hZS⟩ : ∃ ZS, List.replicate N (iv 0) = ZS := ⟨_, rfl⟩
      rw [hZS] at HB1' HA1 HRl a1
      simp only [hZS] at hmk
      have HZ := Lib.hid hZS
      clear hZS
      go_wp2_with (with_reducible refine wpList_copy_splice rfl (.tmp 31) (.tmp 32) 22 22 rfl 3 Tryz.underlying22 Tryz.size_int (some ⟨w1.heap.size, 0, none⟩) Af N N nf cf rfl rfl w1.heap.size 0 ZS 3 ?hg (fs.map iv) ?hn ?hpos ?hfit ?h1 w1.heap.size w1 ?hb ?hBg ?rest)
      case hg => exact heap_alloc_new w1 _
      case hn => rw [List.length_map, ← Hfl.out]; exact (Nat.min_eq_left (by have := HN.out; omega)).symm
      case hpos =>
        intro h0
        have h0' : 0 < nf := by rw [Hfl.out]; simpa using h0
        (try refine ⟨rfl, ?_⟩)
        obtain ⟨ad, hA, _⟩ := HF.out.at_ (show 0 < fs.length by rw [← Hfl.out]; exact h0')
        refine ⟨ad, hA, fun j v hv => ?_⟩
        have hj : j < fs.length := by simpa using (List.getElem?_eq_some_iff.1 hv).1
        obtain ⟨ad', hA', hc'⟩ := HF.out.at_ hj
        rw [hA] at hA'
        injection hA' with hA'
        subst hA'
        have hvj : v = fs[j] := by simpa [hj] using hv.symm
        subst hvj
        exact cell_keep (HO1.out.trans HA1.out) hc'
      case hfit => simp only [List.length_map]; rw [HRl.out, ← Hfl.out]; have := HN.out; omega
      case h1 => intro v hv; obtain ⟨x, _, rfl⟩ := List.mem_map.1 hv; rfl
      case hb => exact (Below.refl _ _).alloc (Nat.le_refl _) _
      case hBg => exact Nat.le_refl _
      case rest =>
        intro W1 hW1 hbel
        have o1 : Only Nix w1 W1 := Only.ofBelow hbel (Nat.le_refl _)
        have hB1 : Box W1 w1.heap.size 3 (cellsM X nf).toArray := by
          have := hW1.out
          unfold Box
          rw [this]
          have e : (splice ZS 0 (fs.map iv)) = cellsM X nf := by
            unfold cellsM
            rw [HXf.out, ← HZ.out, HXl.out]
            simp [splice, ← Hfl.out]
          rw [e]
        have HB1 := Lib.hid hB1
        have e0 := cell_keep o1 c0
        have e1 := cell_keep o1 c1
        have e2 := cell_keep o1 c2
        have HW1 := Lib.hid (HO1.out.trans o1)
        have hgW : w1.heap.size < W1.heap.size := hB1.lt
        have HT := Lib.hid (teller_any (w := W1) P (s : Int) Ac nf cc (some ⟨w1.heap.size, 0, none⟩) N N (by omega))
        clear hB1 o1 hW1 hbel c0 c1 c2 HB1' HA1 HRl hmk a1 HZ
        go_wp2_with fail
        refine (HT.out).mono ?_
        rintro e w2 ⟨rfl, hTl, o2⟩
        have HTl := Lib.hid hTl
        have HB2 := Lib.hid (HB1.out.only o2 (fun e => e))
        have HW2 := Lib.hid (HW1.out.trans o2)
        have hg2 : w1.heap.size < w2.heap.size := Nat.lt_of_lt_of_le hgW o2.size
        have hw1s := HO1.out.size
        clear hTl o2 HT e0 e1 e2 HB1 HW1
        go_wp2
        go_step3
        go_wp2
        go_loopw [10, 11, 39] (fun s10 s11 s39 wr => RsP w w2 w1.heap.size N nf X s10 s11 s39 wr) (fun _ _ s39 _ => N - (intOf s39).toNat)
        case atStart =>
          refine ⟨0, Nat.zero_le _, rfl, rfl, rfl, by simp, ?_, Only.refl _ _, HW2.out⟩
          rw [Nat.max_eq_right (Nat.zero_le _)]
          exact HB2.out
        case round =>
          obtain ⟨j, hj, rfl, rfl, rfl, hal, hbx, hO, hOw⟩ := hrel
          have HAl := Lib.hid hal
          have HO := Lib.hid hO
          have HW := Lib.hid hOw
          clear hal hO hOw
          by_cases hlt : j < N
          · have hlti : (j : Int) < (N : Int) := by omega
            have hjX : j < X.length := by rw [HXl.out]; exact hlt
            have HM := Lib.hid (List.getElem_mem hjX)
            have HE := Lib.hid (List.take_succ_eq_append_getElem hjX)
            have HG := Lib.hid (getD_of hjX)
            by_cases hjo : j < nf
            · have hjoi : (j : Int) < (nf : Int) := by omega
              have hmx : max j nf = nf := Nat.max_eq_right (by omega)
              rw [hmx] at hbx
              have hmx1 : max (j + 1) nf = nf := Nat.max_eq_right (by omega)
              have Hmx := Lib.hid hmx1
              have hc := hbx.cell j
              rw [List.getElem?_toArray, cellsM_at X nf j hjo (by rw [HXl.out]; omega), HG.out] at hc
              have Hbx := Lib.hid hbx
              clear hbx hmx hmx1
              have HI := Lib.hid (isSample_any wr X[j])
              generalize X[j] = x at *
              clear hjX
              by_cases hS : isS x
              · rw [decide_eq_true hS] at HI
                have HS := Lib.hid hS
                clear hS
                go_wp2_with fail
                refine (HI.out).mono ?_
                rintro e w9 ⟨rfl, rfl⟩
                go_wp2
                go_roundw
                case rel =>
                  refine ⟨j + 1, hlt, by go_num, rfl, rfl, fun y hy => ?_, by rw [Hmx.out]; exact Hbx.out, HO.out, HW.out⟩
                  rw [HE.out] at hy
                  rcases List.mem_append.1 hy with hy | hy
                  · exact HAl.out y hy
                  · simp at hy; subst hy; exact HS.out
                case measure => simp [intOf]; omega
              · rw [decide_eq_false hS] at HI
                have hE : rstE P (s : Int) cs fs l = 10 := by rw [HEE.out, if_neg (fun h => hS (h x HM.out))]
                have HF10 := Lib.hid hE
                clear hS hE
                go_wp2_with fail
                refine (HI.out).mono ?_
                rintro e w9 ⟨rfl, rfl⟩
                go_wp2
                go_ret2
                exact ⟨RstR.bad HF10.out (by decide) HW.out, RstB.bad HF10.out (by decide)⟩
            · have hjoi : ¬ (j : Int) < (nf : Int) := by omega
              have hmx : max j nf = j := Nat.max_eq_left (by omega)
              rw [hmx] at hbx
              have hmx1 : max (j + 1) nf = j + 1 := Nat.max_eq_left (by omega)
              have Hmx := Lib.hid hmx1
              have Hbx := Lib.hid hbx
              obtain ⟨k, hk⟩ : ∃ k, j - nf = k := ⟨_, rfl⟩
              have hkj : nf + k = j := by omega
              have hkn : k < n := by have := HN.out; omega
              have hki : (j : Int) - (nf : Int) = (k : Int) := by omega
              have hkni : (k : Int) < (n : Int) := by omega
              have hkl : k < l.length := by rw [← Hll.out]; exact hkn
              obtain ⟨ad, rfl, hx⟩ := (HL.out.nix HW.out).at_ hkl
              have hd := HL.out.fits _ (List.getElem_mem hkl)
              have hnX : ¬ Just w1.heap.size (ad.add k).block := by
                rw [add_block]
                have := HL.out.blk ad n c rfl (by omega)
                show ¬ ad.block = w1.heap.size
                omega
              have hXv := HXat.out k hkn
              rw [hkj, getD_of hkl, HG.out] at hXv
              have hsrc := cellsM_isrc X j (by rw [HXl.out]; omega) HXl.out hbx HAl.out (by omega)
              have hgd : ∀ i, i < j → (X.take j ++ List.replicate (X.length - j) 0).getD i 0 = X.getD i 0 := fun i hi => by
                rw [List.getD_eq_getElem?_getD, List.getElem?_append_left (by rw [List.length_take, HXl.out]; omega), ← List.getD_eq_getElem?_getD, take_getD _ _ _ hi]
              have htld := tld_congr s cs (X.take j ++ List.replicate (X.length - j) 0) X j (by rw [← Hcl.out]; omega) hgd
              have hxs : ∀ i, i < j → isS (X.getD i 0) := allS_getD HAl.out
              have htb := tld_bound s cs X j (okL_coef HOK.out) hxs (by rw [← Hcl.out]; omega) (by rw [← Hcl.out]; exact h32)
              have HTe : Hid (∀ u, Only Nix wr u → Calls Tryz.prog 131 #[iv j, .pointer (some ⟨W1.heap.size + 1, 0, none⟩), .pointer (some ⟨W1.heap.size + 2, 0, none⟩), .pointer (some ⟨W1.heap.size, 0, none⟩)] u fun e w' => e = .returned (iv (tld s cs X j)) ∧ Only Nix u w') := Lib.hid (fun u hu => by
                have h := tell_any (at_ := j) ((HTl.out.only HO.out (fun q h1 _ e => by cases e; omega)).nix hu) (HC.out.nix (HW.out.trans hu)) (hsrc.nix hu) (by omega) (by omega) (Nat.le_refl _) h32 hs15 (okL_coef HOK.out) (fun i hi => by rw [hgd i hi]; exact hxs i hi)
                rw [htld] at h
                exact h)
              have hset := cellsM_set X j hjX
              rw [HG.out] at hset
              have hjc : j < (cellsM X j).length := by rw [cellsM_len X j (by rw [HXl.out]; omega)]; exact hjX
              generalize l[k] = d at *
              generalize X[j] = x at *
              generalize tld s cs X j = tl at *
              have hw := wrap_isS htb hd
              rw [← hXv] at hw
              obtain ⟨wv, hwv⟩ : ∃ wv, wrap64 (tl + d) = wv := ⟨_, rfl⟩
              have hw2 : (isS wv ↔ isS x) ∧ (isS x → wv = x) := by
                rw [← hwv, ← hXv]
                exact hw
              have Hw2 := Lib.hid hw2
              have Hset := Lib.hid hset
              clear hw hw2 hset hXv hsrc hgd htld hxs htb hbx hmx hmx1 hk hkj hjX hkl
              go_wp2
              have noOut : ∀ j s, j < 14 → (([some 45, some 46, some 47, some 48, some 49, some 50, some 51, some 52, some 53, some 54, some 55, some 56, some 57, none] : List (Option Nat)).all fun d => d != some s) = true → ([some 45, some 46, some 47, some 48, some 49, some 50, some 51, some 52, some 53, some 54, some 55, some 56, some 57, none] : List (Option Nat)).getD j none ≠ some s := by
                intro j s hj ha e
                rw [List.getD_eq_getElem?_getD, List.getElem?_eq_getElem (by exact hj), Option.getD_some] at e
                have := List.all_eq_true.1 ha _ (List.getElem_mem (by exact hj))
                rw [e] at this
                simp at this
              refine region_val (by kernel_rfl) (fun k0 => ([some 45, some 46, some 47, some 48, some 49, some 50, some 51, some 52, some 53, some 54, some 55, some 56, some 57, none] : List (Option Nat)).getD k0 none) (fun k0 => ([(.slice (some ⟨w1.heap.size, 0, none⟩) N N), (iv j), (tellV W1.heap.size), (iv j), (iv tl), (.slice (some ad) n c), (iv j), (iv nf), (iv k), (.pointer (some (ad.add k))), (iv d), (iv wv), (.pointer (some ⟨w1.heap.size, j, none⟩)), (undef)] : List Value).getD k0 undef) (StW wr w1.heap.size j wv (cellsM X j).toArray) 67 14 rfl (by kernel_rfl) (by kernel_rfl) rfl (by kernel_rfl) (by kernel_rfl) ⟨(Only.refl _ wr).drew, fun _ => (Only.refl _ wr).drew, fun e => by cases e⟩ ?stepsR [(45, .slice (some ⟨w1.heap.size, 0, none⟩) N N), (46, iv j), (47, tellV W1.heap.size), (48, iv j), (49, iv tl), (50, .slice (some ad) n c), (51, iv j), (52, iv nf), (53, iv k), (54, .pointer (some (ad.add k))), (55, iv d), (56, iv wv), (57, .pointer (some ⟨w1.heap.size, j, none⟩))] rfl ?doneR
              case stepsR =>
                refine ⟨?_, ?_, ?_, ?_, ?_, ?_, ?_, ?_, ?_, ?_, ?_, ?_, ?_, ?_, trivial⟩
                · intro L A' u hW hL0 hnd K' hK
                  have r10 : A'.tmps[10]? = some (.slice (some ⟨w1.heap.size, 0, none⟩) N N) := (hW.out 10 (fun j hj => noOut j 10 hj (by kernel_rfl))).trans rfl
                  go_simp
                  exact hK _ (hW.wi.same (by decide))
                · intro L A' u hW hL0 hnd K' hK
                  have r13 : A'.tmps[13]? = some (iv j) := (hW.out 13 (fun j hj => noOut j 13 hj (by kernel_rfl))).trans rfl
                  go_simp
                  exact hK _ (hW.wi.same (by decide))
                · intro L A' u hW hL0 hnd K' hK
                  have r12 : A'.tmps[12]? = some (tellV W1.heap.size) := (hW.out 12 (fun j hj => noOut j 12 hj (by kernel_rfl))).trans rfl
                  go_simp
                  exact hK _ (hW.wi.same (by decide))
                · intro L A' u hW hL0 hnd K' hK
                  have r13 : A'.tmps[13]? = some (iv j) := (hW.out 13 (fun j hj => noOut j 13 hj (by kernel_rfl))).trans rfl
                  go_simp
                  exact hK _ (hW.wi.same (by decide))
                · intro L A' u hW hL0 hnd K' hK
                  have r47 : A'.tmps[47]? = some (tellV W1.heap.size) := hW.val 2 47 (by decide) (hnd 2 (by kernel_rfl)) rfl
                  have r48 : A'.tmps[48]? = some (iv j) := hW.val 3 48 (by decide) (hnd 3 (by kernel_rfl)) rfl
                  have n11 : L 11 = false := notYet hW.closed (j := 11) (by rfl) (k := 4) (by kernel_rfl) hL0
                  have n13 : L 13 = false := notYet hW.closed (j := 13) (by rfl) (k := 11) (by kernel_rfl) n11
                  have HCL := Lib.hid (HTe.out u (hW.wi.old n13))
                  go_simp
                  refine (HCL.out).mono ?_
                  rintro e' u' ⟨rfl, ho'⟩
                  exact hK _ (hW.wi.keep ho' n13 (by decide))
                · intro L A' u hW hL0 hnd K' hK
                  have r2 : A'.tmps[2]? = some (.slice (some ad) n c) := (hW.out 2 (fun j hj => noOut j 2 hj (by kernel_rfl))).trans rfl
                  go_simp
                  exact hK _ (hW.wi.same (by decide))
                · intro L A' u hW hL0 hnd K' hK
                  have r13 : A'.tmps[13]? = some (iv j) := (hW.out 13 (fun j hj => noOut j 13 hj (by kernel_rfl))).trans rfl
                  go_simp
                  exact hK _ (hW.wi.same (by decide))
                · intro L A' u hW hL0 hnd K' hK
                  have r9 : A'.tmps[9]? = some (iv nf) := (hW.out 9 (fun j hj => noOut j 9 hj (by kernel_rfl))).trans rfl
                  go_simp
                  exact hK _ (hW.wi.same (by decide))
                · intro L A' u hW hL0 hnd K' hK
                  have r51 : A'.tmps[51]? = some (iv j) := hW.val 6 51 (by decide) (hnd 6 (by kernel_rfl)) rfl
                  have r52 : A'.tmps[52]? = some (iv nf) := hW.val 7 52 (by decide) (hnd 7 (by kernel_rfl)) rfl
                  go_simp
                  rw [w64k (k : Int) (by omega) (by omega)]
                  exact hK _ (hW.wi.same (by decide))
                · intro L A' u hW hL0 hnd K' hK
                  have r50 : A'.tmps[50]? = some (.slice (some ad) n c) := hW.val 5 50 (by decide) (hnd 5 (by kernel_rfl)) rfl
                  have r53 : A'.tmps[53]? = some (iv k) := hW.val 8 53 (by decide) (hnd 8 (by kernel_rfl)) rfl
                  go_simp
                  exact hK _ (hW.wi.same (by decide))
                · intro L A' u hW hL0 hnd K' hK
                  have r54 : A'.tmps[54]? = some (.pointer (some (ad.add k))) := hW.val 9 54 (by decide) (hnd 9 (by kernel_rfl)) rfl
                  have hc := cell_only hW.wi.only hx hnX
                  go_simp
                  exact hK _ (hW.wi.same (by decide))
                · intro L A' u hW hL0 hnd K' hK
                  have r49 : A'.tmps[49]? = some (iv tl) := hW.val 4 49 (by decide) (hnd 4 (by kernel_rfl)) rfl
                  have r55 : A'.tmps[55]? = some (iv d) := hW.val 10 55 (by decide) (hnd 10 (by kernel_rfl)) rfl
                  go_simp
                  rw [wrap_is, hwv]
                  exact hK _ (hW.wi.same (by decide))
                · intro L A' u hW hL0 hnd K' hK
                  have r45 : A'.tmps[45]? = some (.slice (some ⟨w1.heap.size, 0, none⟩) N N) := hW.val 0 45 (by decide) (hnd 0 (by kernel_rfl)) rfl
                  have r46 : A'.tmps[46]? = some (iv j) := hW.val 1 46 (by decide) (hnd 1 (by kernel_rfl)) rfl
                  go_simp
                  exact hK _ (hW.wi.same (by decide))
                · intro L A' u hW hL0 hnd K' hK
                  have r57 : A'.tmps[57]? = some (.pointer (some ⟨w1.heap.size, j, none⟩)) := hW.val 12 57 (by decide) (hnd 12 (by kernel_rfl)) rfl
                  have r56 : A'.tmps[56]? = some (iv wv) := hW.val 11 56 (by decide) (hnd 11 (by kernel_rfl)) rfl
                  have hB := Hbx.out.only (hW.wi.old hL0) (fun e => e)
                  have hf := hB.frozen j
                  have hcz := hB.cell j
                  rw [List.getElem?_toArray, List.getElem?_eq_getElem hjc] at hcz
                  go_simp
                  exact hK _ (hW.wi.stored hL0 Hbx.out)
              case doneR =>
                intro L u hWI hall
                have hnew := hWI.new (hall 13 (by decide))
                have ho := hWI.only
                clear hWI hall noOut HTe
                simp only [putV, List.foldl_cons, List.foldl_nil, List.setIfInBounds_toArray, List.set_cons_zero, List.set_cons_succ]
                have hcz := hnew.cell j
                rw [List.setIfInBounds_toArray, List.getElem?_toArray, List.getElem?_set_self hjc] at hcz
                have HWu := Lib.hid (HW.out.then ho (fun i e => .inr (by rw [e]; exact hw1s)))
                have HOu := Lib.hid (HO.out.trans ho)
                have Hnew := Lib.hid hnew
                have HI := Lib.hid (isSample_any u wv)
                clear hnew ho hjc
                by_cases hS : isS x
                · have hwx := Hw2.out.2 hS
                  rw [hwx] at HI hcz Hnew
                  rw [decide_eq_true hS] at HI
                  rw [Hset.out] at Hnew
                  have HS := Lib.hid hS
                  rw [hwx]
                  clear hS hwx hwv
                  go_wp2_with fail
                  refine (HI.out).mono ?_
                  rintro e w9 ⟨rfl, rfl⟩
                  go_wp2
                  go_roundw
                  case rel =>
                    refine ⟨j + 1, hlt, by go_num, rfl, rfl, fun y hy => ?_, by rw [Hmx.out]; exact Hnew.out, HOu.out, HWu.out⟩
                    rw [HE.out] at hy
                    rcases List.mem_append.1 hy with hy | hy
                    · exact HAl.out y hy
                    · simp at hy; subst hy; exact HS.out
                  case measure => simp [intOf]; omega
                · have hwn : ¬ isS wv := fun h => hS (Hw2.out.1.1 h)
                  rw [decide_eq_false hwn] at HI
                  have hE : rstE P (s : Int) cs fs l = 10 := by rw [HEE.out, if_neg (fun h => hS (h x HM.out))]
                  have HF10 := Lib.hid hE
                  clear hS hE hwn hwv
                  go_wp2_with fail
                  refine (HI.out).mono ?_
                  rintro e w9 ⟨rfl, rfl⟩
                  go_wp2
                  go_ret2
                  exact ⟨RstR.bad HF10.out (by decide) HWu.out, RstB.bad HF10.out (by decide)⟩
          · obtain rfl : j = N := by omega
            have hS : ∀ y ∈ X, isS y := fun y hy => HAl.out y (by rw [List.take_of_length_le (by rw [HXl.out]; exact Nat.le_refl _)]; exact hy)
            have hmx : max j nf = X.length := by rw [HXl.out]; exact Nat.max_eq_left (by have := HN.out; omega)
            rw [hmx, cellsM_all] at hbx
            have hE : rstE P (s : Int) cs fs l = 0 := by rw [HEE.out, if_pos hS]
            have hV : rstV P (s : Int) cs fs l = X := by rw [HVV.out, if_pos hS]
            have HBB : Hid (RstB w P (s : Int) cs fs l (.returned (.tuple #[.slice (some ⟨w1.heap.size, 0, none⟩) j j, iv 0])) wr) := Lib.hid (fun _ => ⟨_, by rw [hV, HXl.out], by rw [hV]; exact hbx, hw1s⟩)
            have HFin : Hid (RstR w P (s : Int) cs fs l (.returned (.tuple #[.slice (some ⟨w1.heap.size, 0, none⟩) j j, iv 0])) wr) := Lib.hid (by
              refine ⟨⟨some ⟨w1.heap.size, 0, none⟩, j, by rw [hV, HXl.out, hE], ?_⟩, HW.out⟩
              rw [hV, HXl.out]
              exact ISrc.of_box hbx HXl.out (Nat.le_refl _) (by rw [HXl.out]; omega) (fun y hy => by have := hS y hy; unfold isS at this; omega))
            clear hS hE hV hmx hbx
            go_wp2
            go_ret2
            exact ⟨HFin.out, HBB.out⟩
    · have hE : rstE P (s : Int) cs fs l = 1 := by unfold rstE; rw [if_pos HOK.out, if_pos (by rw [← Hfl.out, ← Hcl.out]; exact hne)]
      have HE := Lib.hid hE
      have hnei : ¬ (nf : Int) = (nc : Int) := by omega
      clear hE
      go_wp2
      go_ret2
      exact ⟨RstR.bad HE.out (by decide) HO1.out, RstB.bad HE.out (by decide)⟩
  · have e0 : ckL P S cs = 10 := if_neg hok
    have hE : rstE P S cs fs l = 10 := if_neg hok
    rw [e0] at HCk
    have HE := Lib.hid hE
    clear hok e0 hE
    go_wp2_with fail
    refine (HCk.out).mono ?_
    rintro e w1 ⟨rfl, o1⟩
    have HO1 := Lib.hid (HA.out.trans o1)
    clear o1
    go_wp2
    go_ret2
    exact ⟨RstR.bad HE.out (by decide) HO1.out, RstB.bad HE.out (by decide)⟩
end Go.Proofs.YteklfkpeaadinaaGreatDoor.K
namespace Go.Proofs.YteklfkpeaadinaaGreatDoor.K
open Go.RowKit

end Go.Proofs.YteklfkpeaadinaaGreatDoor.K
