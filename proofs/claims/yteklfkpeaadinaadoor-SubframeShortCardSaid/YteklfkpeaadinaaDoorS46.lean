/-
  SubframeShort: its walk.
-/
import Derived.Test.YteklfkpeaadinaaDoorPDS45
import Derived.Test.YteklfkpeaadinaaDoorPDS21
import Derived.Test.YteklfkpeaadinaaDoorPDS22
namespace Go.Proofs.YteklfkpeaadinaaDoor.S
open Go.RowKit Go.Shelf Go.Joins
open K (linV fx resV resE bestV)

def SlP (w : World) (xs : List Int) (s5 : Value) (wr : World) : Prop := ∃ j : Nat, j ≤ xs.length ∧ s5 = iv j ∧ wr = w
/-- the writer stays while others are made -/
def VwP (W4 : World) (b : Nat) (v : Value) (bs L : List Nat) (d : Nat) (s9 : Value) (wr : World) : Prop := ∃ k : Nat, k ≤ d ∧ s9 = iv k ∧ Only Nix W4 wr

theorem ckBlk_zero {b d : Int} (h : ckBlk b d = 0) : 4 ≤ d ∧ d ≤ 33 ∧ 1 ≤ b ∧ b ≤ 65535 := by
  unfold ckBlk at h
  split at h
  · cases h
  · omega
/-- what Best answers where it answers a plan -/
theorem bsR_good {d : Int} {xs : List Int} {w w' : World} {e : Ending} (h : BsR d xs w e w') : Only Nix w w' ∧ ((∃ E : Int, e = .returned (.tuple #[zP, iv E]) ∧ (E = 1 ∨ E = 10)) ∨
    (∃ (D : Nat) (k o m ro : Int) (A1 A2 : Option Addr) (n1 c1 n2 c2 : Nat) (ps bs : List Int), d = (D : Int) ∧ ckBlk xs.length d = 0 ∧ fitsD D xs ∧ e = .returned (.tuple #[spV k o (nou xs) 0 0 (.slice none 0 0) m ro (.slice A1 n1 c1) (.slice A2 n2 c2), iv 0]) ∧ ISrc w' (.slice A1 n1 c1) ps ∧ ISrc w' (.slice A2 n2 c2) bs ∧
      splE k o (nou xs) 0 0 m ro [] ps bs d xs = 0 ∧ ((chB k o (nou xs) 0 0 m ro [] ps bs d xs).length ≤ 8 + nou xs + xs.length * (D - nou xs) ∨ (chB k o (nou xs) 0 0 m ro [] ps bs d xs).length ≤ 8 + nou xs + (D - nou xs)))) := by
  obtain ⟨ho, h⟩ := h
  refine ⟨ho, ?_⟩
  rcases h with ⟨_, rfl⟩ | ⟨hck, h⟩
  · exact .inl ⟨1, rfl, .inl rfl⟩
  · obtain ⟨h1, h2, h3, _⟩ := ckBlk_zero hck
    obtain ⟨D, hD⟩ := Int.eq_ofNat_of_zero_le (show 0 ≤ d by omega)
    have hD : d = (D : Int) := hD
    subst hD
    rw [Int.toNat_natCast] at h
    rcases h with ⟨_, rfl⟩ | ⟨hf, hs, rfl⟩ | ⟨hf, hs, k, o, m, ro, A1, A2, n1, c1, n2, c2, ps, bs, rfl, i1, i2, hpl, _⟩
    · exact .inl ⟨10, rfl, .inr rfl⟩
    · obtain ⟨hW, hd⟩ := nou_lt (by omega) (by omega) hf
      refine .inr ⟨D, 0, 0, 0, 0, none, none, 0, 0, 0, 0, [], [], rfl, hck, hf, rfl, K.isrc_nil _, K.isrc_nil _, ?_, .inr (Nat.le_of_eq (chB_const (by omega) hW))⟩
      exact splE_ok (k := 0) (o := 0) (by omega) ⟨by decide, by decide⟩ hW hck hf hd (fun _ => hs) (.inr ⟨rfl, rfl, rfl, rfl⟩) (fun e => by omega)
    · obtain ⟨hW, hd⟩ := nou_lt (by omega) (by omega) hf
      have hyS : ∀ y ∈ xs.map (dvd (nou xs)), K.isS y := fun y hy => by
        obtain ⟨x, hx, rfl⟩ := List.mem_map.1 hy
        have h1 := isS_dvd hW (hf x hx)
        unfold isS at h1
        rw [if_neg (by omega)] at h1
        have h2 : (2 : Int) ^ (D - nou xs - 1) ≤ 2 ^ 32 := by
          have : (2 : Nat) ^ (D - nou xs - 1) ≤ 2 ^ 32 := Nat.pow_le_pow_right (by decide) (by omega)
          exact_mod_cast this
        have h3 : (2 : Int) ^ 32 = 4294967296 := by decide
        unfold K.isS
        omega
      obtain ⟨g1, g2⟩ := best_fits hck hf hW hd rfl rfl rfl hyS hpl
      exact .inr ⟨D, k, o, m, ro, A1, A2, n1, c1, n2, c2, ps, bs, rfl, hck, hf, rfl, i1, i2, g1, .inl g2⟩

set_option maxRecDepth 100000 in
set_option maxHeartbeats 8000000 in
theorem subframeShort_walk {w : World} (hLd : Laid w) (hT : Tab w) (d : Int) (A : Option Addr) (n c : Nat) (xs : List Int) (hxs : ISrc w (.slice A n c) xs) :
    Calls Tryd.prog 3 #[iv d, .slice A n c] w fun e w' => e = .returned (.bool true) ∧ Only Nix w w' := by
  have hxl := hxs.len
  have hsm := hxs.small
  rw [← hxl] at hsm
  have HX := Lib.hid hxs
  have Hxl := Lib.hid hxl
  have HT := Lib.hid hT
  have HLd := Lib.hid hLd
  have HAw : Hid (∀ u, Only Nix w u → Calls Tryd.prog 5 #[] u fun e w' => e = .returned (.bool true) ∧ Only Nix u w') := Lib.hid (fun u hu => awake7 (hLd.nix hu) (hT.nix hu))
  have HFew := Lib.hid (few_any (w := w) 0 0 0 0 0 none 0 0 0 0 none none 0 0 0 0 A n c xs hxs)
  clear hxs hxl hLd hT
  go_enter Tryd.func3, Tryd.ntmps3
  go_wp2_with fail
  refine (HFew.out).mono ?_
  rintro e w1 ⟨rr, rfl, o1, hfew⟩
  have HO1 := Lib.hid o1
  clear o1 HFew
  cases rr with
  | false =>
    clear hfew
    go_wp2_with fail
    refine (HAw.out _ (HO1.out)).mono ?_
    rintro e wz ⟨rfl, oz⟩
    have HFin := Lib.hid ((HO1.out).trans oz)
    go_wp2
    go_ret
    exact ⟨rfl, HFin.out⟩
  | true =>
    obtain ⟨_, _, _, hn100⟩ := hfew rfl
    clear hfew
    by_cases hn60 : 60 < n
    · have hn60i : (60 : Int) < (n : Int) := by omega
      go_wp2_with fail
      refine (HAw.out _ (HO1.out)).mono ?_
      rintro e wz ⟨rfl, oz⟩
      have HFin := Lib.hid ((HO1.out).trans oz)
      go_wp2
      go_ret
      exact ⟨rfl, HFin.out⟩
    have hn60i : ¬ (60 : Int) < (n : Int) := by omega
    go_wp2
    go_loopw [5] (fun s5 wr => SlP w1 xs s5 wr) (fun s5 _ => n - (intOf s5).toNat)
    case atStart => exact ⟨0, Nat.zero_le _, rfl, rfl⟩
    case round =>
      obtain ⟨j, hj, rfl, rfl⟩ := hrel
      rw [← Hxl.out] at hj
      by_cases hlt : j < n
      · have hltx : j < xs.length := by rw [← Hxl.out]; exact hlt
        obtain ⟨ad, rfl, hx⟩ := (HX.out.nix HO1.out).at_ hltx
        have hft := HX.out.fits _ (List.getElem_mem hltx)
        have hlti : (j : Int) < (n : Int) := by omega
        generalize xs[j] = x at *
        clear hltx
        by_cases g1 : 20000 < x
        · go_wp2_with fail
          refine (HAw.out _ (HO1.out)).mono ?_
          rintro e wz ⟨rfl, oz⟩
          have HFin := Lib.hid ((HO1.out).trans oz)
          go_wp2
          go_ret
          exact ⟨rfl, HFin.out⟩
        by_cases g2 : x < -20000
        · go_wp2_with fail
          refine (HAw.out _ (HO1.out)).mono ?_
          rintro e wz ⟨rfl, oz⟩
          have HFin := Lib.hid ((HO1.out).trans oz)
          go_wp2
          go_ret
          exact ⟨rfl, HFin.out⟩
        go_wp2
        go_roundw
        case rel => exact ⟨j + 1, by rw [← Hxl.out]; omega, by go_num, rfl⟩
        case measure => simp [intOf]; omega
      · have hlti : ¬ (j : Int) < (n : Int) := by omega
        generalize wr = w1 at *
        have HBe := Lib.hid (bestP_any (w := w1) d A n c xs (HX.out.nix HO1.out) (by omega) (HT.out.nix HO1.out))
        go_wp2_with fail
        refine (HBe.out).mono ?_
        intro e w2 hb
        obtain ⟨o2, hb⟩ := bsR_good hb
        have HO2 := Lib.hid (HO1.out.trans o2)
        clear o2 HBe
        rcases hb with ⟨E, rfl, hE⟩ | ⟨D, k, o, m, ro, A1, A2, n1, c1, n2, c2, ps, bs, rfl, hck, hf, rfl, hs1, hs2, hsp, hlen⟩
        · go_wp2_with (refine wpList_store_row rfl 29 (.tmp 6) (.tmp 45) rfl rfl w2.heap.size 29 zC zC rfl rfl (Box.new w2 _ _) Tryd.size_plan rfl (spC_one _ _ _ _ _ _ _ _ _ _ _ _ _ _ _ _) ?sa)
          case sa =>
            intro w3 hb3 ho3
            have HO3 : Hid (Only Nix w w3) := Lib.hid (HO2.out.trans (((Only.refl Nix w2).alloc _).then ho3 (fun i e => .inr (by cases e; exact Nat.le_refl _))))
            clear hb3 ho3
            rcases hE with rfl | rfl
            all_goals
              go_wp2_with fail
              refine (HAw.out _ (HO3.out)).mono ?_
              rintro e wz ⟨rfl, oz⟩
              have HFin := Lib.hid ((HO3.out).trans oz)
              go_wp2
              go_ret
              exact ⟨rfl, HFin.out⟩
        · obtain ⟨W, hW⟩ : ∃ W, nou xs = W := ⟨_, rfl⟩
          obtain ⟨h4, h33, h1n, _⟩ := ckBlk_zero hck
          obtain ⟨hWD, _⟩ := nou_lt (show 4 ≤ D by omega) (by omega) hf
          rw [hW] at hsp hlen hWD ⊢
          rw [← Hxl.out] at h1n hlen
          have hd33 : D ≤ 33 := by omega
          have hn1 : 1 ≤ n := by omega
          have Hs1 := Lib.hid hs1
          have Hs2 := Lib.hid hs2
          have HSp := Lib.hid hsp
          have HLe := Lib.hid hlen
          clear hs1 hs2 hsp hlen hf hck hW h4 h33 h1n
          go_wp2_with (refine wpList_store_row rfl 29 (.tmp 6) (.tmp 45) rfl rfl w2.heap.size 29 zC (spC k o W 0 0 (.slice none 0 0) m ro (.slice A1 n1 c1) (.slice A2 n2 c2)) rfl rfl (Box.new w2 _ _) Tryd.size_plan rfl (spC_one _ _ _ _ _ _ _ _ _ _ _ _ _ _ _ _) ?sb)
          case sb =>
            intro w3 hb3 ho3
            have o23 : Only Nix w2 w3 := ((Only.refl Nix w2).alloc _).then ho3 (fun i e => .inr (by cases e; exact Nat.le_refl _))
            have HO3 : Hid (Only Nix w w3) := Lib.hid (HO2.out.trans o23)
            have Hs13 := Lib.hid (Hs1.out.nix o23)
            have Hs23 := Lib.hid (Hs2.out.nix o23)
            have HB3 := Lib.hid hb3
            clear hb3 ho3 o23
            have HNW := Lib.hid (newWriter_any w3)
            go_wp2_with fail
            refine (HNW.out).mono ?_
            rintro e w4 ⟨rfl, hW4, o4⟩
            obtain ⟨b, hb⟩ : ∃ b, w3.heap.size = b := ⟨_, rfl⟩
            have hbw : w.heap.size ≤ b := by have := HO3.out.size; omega
            rw [hb] at hW4 ⊢
            have HO4 := Lib.hid (HO3.out.trans o4)
            have HB4 := Lib.hid (HB3.out.only o4 (fun e => e))
            have hbB := HB3.out.lt
            have hbB2 : w2.heap.size < b := by omega
            have hLw : ∀ u, Only (WF b (.slice none 0 0)) w4 u → Laid u := fun u hu => (HLd.out.nix HO4.out).only hu (fun e => by
              have := HLd.out.lt
              rcases e with e | e
              · omega
              · simp [Value.ownBlock] at e)
            have aP := apart_new (b := b) Hs13.out (by omega)
            have aB := apart_new (b := b) Hs23.out (by omega)
            have HWr := Lib.hid (write_any hW4 hLw k o W 0 0 none 0 0 m ro A1 A2 n1 c1 n2 c2 [] ps bs D A n c xs (K.isrc_nil _) (Hs13.out.nix o4) (Hs23.out.nix o4) (HX.out.nix HO4.out) (by omega) (apart_new (b := b) (K.isrc_nil w3) (by omega)) aP aB (by simp))
            have z0 := HB4.out.cell 0
            have z1 := HB4.out.cell 1
            have z2 := HB4.out.cell 2
            have z3 := HB4.out.cell 3
            have z4 := HB4.out.cell 4
            have z5 := HB4.out.cell 5
            have z6 := HB4.out.cell 6
            have z7 := HB4.out.cell 7
            have z8 := HB4.out.cell 8
            have z9 := HB4.out.cell 9
            simp only [List.getElem?_toArray, List.getElem?_cons_zero, List.getElem?_cons_succ] at z0 z1 z2 z3 z4 z5 z6 z7 z8 z9
            clear hW4 o4 hLw aP aB hb HNW
            go_wp2_with fail
            refine (HWr.out).mono ?_
            intro e w5 hwr
            have he := hwr.ans
            rw [HSp.out] at he
            subst he
            obtain ⟨v5, bs5, hW5, ho5, hm5⟩ := hwr.good HSp.out
            rw [List.nil_append] at hW5
            obtain ⟨LL, hLL⟩ : ∃ LL, chB k o W 0 0 m ro [] ps bs D xs = LL := ⟨_, rfl⟩
            rw [hLL] at hW5 HLe
            have HO5 : Hid (Only Nix w w5) := Lib.hid (HO4.out.then ho5 (fun i e => by
              rcases e with e | e
              · exact .inr (by omega)
              · simp [Value.ownBlock] at e))
            have HB5 := Lib.hid (HB4.out.only ho5 (fun e => by
              rcases e with e | e
              · omega
              · simp [Value.ownBlock] at e))
            have HW5 := Lib.hid hW5
            clear z0 z1 z2 z3 z4 z5 z6 z7 z8 z9
            clear hwr hW5 ho5 hm5 hLL HWr HB3 HB4
            go_wp2
            go_loopw [9, 10, 11] (fun s9 s10 s11 wr => VwP w5 b v5 bs5 LL D s9 wr) (fun s9 _ _ _ => D - (intOf s9).toNat)
            case atStart => exact ⟨0, Nat.zero_le _, rfl, Only.refl _ _⟩
            case round =>
              obtain ⟨q, hq, rfl, hO⟩ := hrel
              have HOr := Lib.hid hO
              clear hO
              by_cases hlt2 : q < D
              · have hlt2i : (q : Int) < (D : Int) := by omega
                have HOw := Lib.hid (HO5.out.trans HOr.out)
                have HNW := Lib.hid (newWriter_any wr)
                go_wp2_with fail
                refine (HNW.out).mono ?_
                rintro e w6 ⟨rfl, hW6, o6⟩
                obtain ⟨g, hg⟩ : ∃ g, wr.heap.size = g := ⟨_, rfl⟩
                have hgw : w.heap.size ≤ g := by have := HOw.out.size; omega
                rw [hg] at hW6 ⊢
                have HO6 := Lib.hid (HOw.out.trans o6)
                have H56 := Lib.hid (HOr.out.trans o6)
                have hLw : ∀ u, Only (WF g (.slice none 0 0)) w6 u → Laid u := fun u hu => (HLd.out.nix HO6.out).only hu (fun e => by
                  have := HLd.out.lt
                  rcases e with e | e
                  · omega
                  · simp [Value.ownBlock] at e)
                have HWr := Lib.hid (write_any hW6 hLw 1 0 q 0 0 none 0 0 0 0 none none 0 0 0 0 [] [] [] D A n c xs (K.isrc_nil _) (K.isrc_nil _) (K.isrc_nil _) (HX.out.nix HO6.out) (by omega) (apart_new (b := g) (K.isrc_nil wr) (by omega)) (apart_new (b := g) (K.isrc_nil wr) (by omega)) (apart_new (b := g) (K.isrc_nil wr) (by omega)) (by simp))
                have h5g : w5.heap.size ≤ g := by have := HOr.out.size; omega
                clear hW6 o6 hLw hg HNW
                go_wp2_with fail
                refine (HWr.out).mono ?_
                intro e w7 hwr
                obtain ⟨E, hE⟩ : ∃ E, splE 1 0 q 0 0 0 0 [] [] [] D xs = E := ⟨_, rfl⟩
                rw [hE] at hwr
                have he := hwr.ans
                subst he
                by_cases h0 : E = 0
                · subst h0
                  obtain ⟨v7, bs7, hW7, ho7, hm7⟩ := hwr.good rfl
                  rw [List.nil_append] at hW7
                  have hlv := chB_verb (W := q) (d := D) (xs := xs) hlt2
                  have H57 : Hid (Only Nix w5 w7) := Lib.hid (H56.out.then ho7 (fun i e => by
                    rcases e with e | e
                    · exact .inr (by omega)
                    · simp [Value.ownBlock] at e))
                  have HB7 := Lib.hid (HB5.out.only H57.out (fun e => e))
                  have HLn := Lib.hid (len_any (HW5.out.nix H57.out))
                  have HLv := Lib.hid (len_any hW7)
                  rw [hlv, ← Hxl.out] at HLv
                  have z0 := HB7.out.cell 0
                  have z1 := HB7.out.cell 1
                  have z2 := HB7.out.cell 2
                  have z3 := HB7.out.cell 3
                  have z4 := HB7.out.cell 4
                  have z5 := HB7.out.cell 5
                  have z6 := HB7.out.cell 6
                  have z7 := HB7.out.cell 7
                  have z8 := HB7.out.cell 8
                  have z9 := HB7.out.cell 9
                  simp only [List.getElem?_toArray, List.getElem?_cons_zero, List.getElem?_cons_succ] at z0 z1 z2 z3 z4 z5 z6 z7 z8 z9
                  clear hwr hW7 ho7 hm7 HWr hE hlv
                  have hDq : (D : Int) - (q : Int) = ((D - q : Nat) : Int) := by omega
                  obtain ⟨dq, hdq⟩ : ∃ dq, D - q = dq := ⟨_, rfl⟩
                  rw [hdq] at hDq HLv
                  have hdq33 : dq ≤ 33 := by omega
                  have hnq : (n : Int) * (dq : Int) = ((n * dq : Nat) : Int) := by rw [Int.natCast_mul]
                  have hnqb : n * dq ≤ 60 * 33 := Nat.mul_le_mul (by omega) hdq33
                  have hLLb : q ≤ W → LL.length ≤ 8 + q + n * dq := fun hqW => by
                    obtain ⟨m1, m2⟩ := less_more hn1 hqW hWD
                    rw [hdq] at m1 m2
                    rcases HLe.out with h | h <;> omega
                  obtain ⟨NQ, hNQ⟩ : ∃ NQ, n * dq = NQ := ⟨_, rfl⟩
                  rw [hNQ] at hnq hnqb hLLb HLv
                  obtain ⟨ll, hll⟩ : ∃ ll, LL.length = ll := ⟨_, rfl⟩
                  rw [hll] at hLLb HLn
                  obtain ⟨vl, hvl⟩ : ∃ vl, 8 + q + NQ = vl := ⟨_, rfl⟩
                  have hsum : (8 : Int) + (q : Int) + (NQ : Int) = (vl : Int) := by omega
                  rw [hvl] at hLLb HLv
                  have hvlb : vl ≤ 100000 := by omega
                  have Hll := Lib.hid (And.intro hll (And.intro hdq (And.intro hNQ hvl)))
                  clear hll hdq hNQ hvl
                  by_cases hqW : q ≤ W
                  · have hqWi : (q : Int) ≤ (W : Int) := by omega
                    have hcmp := hLLb hqW
                    have hcmpi : ¬ (vl : Int) < (ll : Int) := by omega
                    have hmx : (vl : Int) ≤ (vl : Int) := Int.le_refl _
                    clear hLLb hcmp
                    go_wp2_with fail
                    refine (HLn.out).mono ?_
                    rintro e w8 ⟨rfl, rfl⟩
                    go_wp2_with fail
                    refine (HLv.out).mono ?_
                    rintro e w8 ⟨rfl, rfl⟩
                    go_wp2
                    go_roundw
                    case rel => exact ⟨q + 1, by omega, by go_num, H57.out⟩
                    case measure => simp [intOf]; omega
                  · have hqWi : ¬ (q : Int) ≤ (W : Int) := by omega
                    clear hLLb HLn HLv
                    go_wp2
                    go_roundw
                    case rel => exact ⟨q + 1, by omega, by go_num, H57.out⟩
                    case measure => simp [intOf]; omega
                · have hEb : (E == 0) = false := by simpa using h0
                  have o7 := hwr.bad h0
                  have H57 : Hid (Only Nix w5 w7) := Lib.hid (H56.out.trans o7)
                  clear hwr o7 HWr hE
                  go_wp2
                  go_roundw
                  case rel => exact ⟨q + 1, by omega, by go_num, H57.out⟩
                  case measure => simp [intOf]; omega
              · have hlt2i : ¬ (q : Int) < (D : Int) := by omega
                have HOw := Lib.hid (HO5.out.trans HOr.out)
                go_wp2_with fail
                refine (HAw.out _ (HOw.out)).mono ?_
                rintro e wz ⟨rfl, oz⟩
                have HFin := Lib.hid ((HOw.out).trans oz)
                go_wp2
                go_ret
                exact ⟨rfl, HFin.out⟩
end Go.Proofs.YteklfkpeaadinaaDoor.S
