/-
  Package subframe: leastFixed.
-/
import Derived.Test.YteklfkpeaadinaaGreatDoorPCS35
import Derived.Test.YteklfkpeaadinaaGreatDoorPCS5
import Derived.Test.YteklfkpeaadinaaGreatDoorPCS16
namespace Go.Proofs.YteklfkpeaadinaaGreatDoor.S
open Go.RowKit Go.Shelf
open K (linV fx resV resE bestV)
theorem bst_lt (f : Nat → Nat) : ∀ k, 1 ≤ k → (K.bst f k).1 < k
  | 0, h => by omega
  | 1, _ => by simp [K.bst]
  | k + 2, _ => by
    have := bst_lt f (k + 1) (by omega)
    rw [K.bst]
    split
    · simp
    · omega
theorem bestV_lt (ys : List Int) (h : 1 ≤ ys.length) : bestV ys ≤ 4 ∧ bestV ys < ys.length := by
  unfold K.bestV
  split
  · have := bst_lt (K.lf ys) (min ys.length 5) (by omega)
    omega
  · omega
theorem resV_fx_len {ys : List Int} {q : Nat} (hq : q ≤ 4) (hn : q ≤ ys.length) (hS : ∀ y ∈ ys, K.isS y) : (resV 4 0 (fx q) ys).length = ys.length - q := by
  unfold K.resV
  rw [if_pos (K.resE_fx ys q hq hn hS), K.resT_len, K.fx_len q hq]
/-- residuals that may be have a plan -/
theorem raw_fine {q : Nat} {rs : List Int} (hq : q ≤ 4) (hn : 1 ≤ rs.length) (hb : rs.length + q ≤ 65535) (hR : ∀ r ∈ rs, isR r) : Fine 1 0 q 1 (rs.length + q) [30] [0] rs := by
  refine ⟨by decide, by decide, by omega, rfl, by omega, by omega, hb, rfl, rfl, ?_, hR, ?_⟩
  · intro k hk hk'
    have h0 : k = 0 := by simp at hk; omega
    subst h0
    show isP ((1 : Nat) : Int) 30 0
    exact .inr ⟨by decide, by decide, rfl⟩
  · intro k hk
    have h0 : k = 0 := by omega
    subst h0
    show mayP 30 0 (pt (rs.length + q) q (rs.map fd) 0) = true
    unfold mayP
    rw [if_neg (by decide), decide_eq_true_eq]
    have h1 : mxN (pt (rs.length + q) q (rs.map fd) 0) ≤ 4294967296 := by
      rcases Nat.eq_zero_or_pos (pt (rs.length + q) q (rs.map fd) 0).length with h | h
      · have := List.length_eq_zero_iff.1 h
        rw [this]
        decide
      · have hm := mxN_mem (ns := pt (rs.length + q) q (rs.map fd) 0) h
        have h2 : mxN (pt (rs.length + q) q (rs.map fd) 0) ∈ rs.map fd := by
          unfold pt at hm ⊢
          exact List.mem_of_mem_drop (List.mem_of_mem_take hm)
        obtain ⟨r, hr, e⟩ := List.mem_map.1 h2
        rw [← e]
        have := hR r hr
        unfold isR at this
        unfold fd
        split <;> omega
    have h3 : (2 : Nat) ^ (30 : Int).toNat = 1073741824 := by decide
    rw [h3]
    omega
theorem Tryz.size_rplan7 : (Tryz.prog.info? 26).map (·.size) = some 4 := by kernel_rfl
/-- what leastFixed answers -/
def LfR (D q : Nat) (rs : List Int) (w : World) (e : Ending) (w' : World) : Prop :=
  ((¬ ∀ r ∈ rs, isR r) ∧ e = .returned (.tuple #[zP, iv 0, .bool false]) ∧ Only Nix w w') ∨
  ((∀ r ∈ rs, isR r) ∧ ∃ (x : Pl) (st1 : Option Pl) (A1 A2 : Option Addr) (n1 c1 n2 c2 : Nat), e = .returned (.tuple #[spV 2 q 0 0 0 (.slice none 0 0) x.1 x.2.1 (.slice A1 n1 c1) (.slice A2 n2 c2), iv ((q : Int) * (D : Int) + (sizeN x.1 x.2.1 (x.2.2.map (·.1)) (x.2.2.map (·.2)) q rs : Nat)), .bool true]) ∧
    ISrc w' (.slice A1 n1 c1) (x.2.2.map (·.1)) ∧ ISrc w' (.slice A2 n2 c2) (x.2.2.map (·.2)) ∧ ScanR 0 q 4 (rs.map fd) 0 none st1 ∧ ScanR 1 q 4 (rs.map fd) 0 st1 (some x) ∧ (∀ ad, A1 = some ad ∨ A2 = some ad → w.heap.size ≤ ad.block) ∧ Only Nix w w')
set_option maxRecDepth 100000 in
set_option maxHeartbeats 8000000 in
theorem leastFixed_any {w : World} (D : Nat) (hD : D ≤ 40) (A : Option Addr) (n c : Nat) (ys : List Int) (hy : ISrc w (.slice A n c) ys) (hn1 : 1 ≤ n) (hn : n ≤ 1000) (hS : ∀ y ∈ ys, K.isS y) :
    Calls Tryz.prog 57 #[iv D, .slice A n c] w fun e w' => LfR D (bestV ys) (resV 4 0 (fx (bestV ys)) ys) w e w' := by
  have hyl := hy.len
  obtain ⟨hq4, hqn⟩ := bestV_lt ys (by omega)
  obtain ⟨q, hqE⟩ : ∃ q, bestV ys = q := ⟨_, rfl⟩
  rw [hqE] at hq4 hqn ⊢
  have hrE := K.resE_fx ys q hq4 (by omega) hS
  have hrl := resV_fx_len hq4 (by omega) hS
  obtain ⟨Wa, hWa⟩ : ∃ Wa, w.alloc (.cells zC 28) = Wa := ⟨_, rfl⟩
  have a0 := (Only.refl Nix w).alloc (.cells zC 28)
  have bq := Box.new w 28 zC
  have hws : Wa.heap.size = w.heap.size + 1 := by rw [← hWa]; simp
  rw [hWa] at a0 bq
  have HY := Lib.hid (hy.nix a0)
  have HY0 := Lib.hid hy
  have HA := Lib.hid a0
  have HBq := Lib.hid bq
  have HPb := Lib.hid (K.best_any (w := Wa) A n c ys HY.out hn)
  rw [hqE] at HPb
  have HrE := Lib.hid hrE
  have HPr : Hid (∀ u, Calls Tryz.prog 91 #[spV 2 (q : Int) 0 0 0 (.slice none 0 0) 0 0 (.slice none 0 0) (.slice none 0 0)] u fun e w' => PreR 4 0 (fx q) u e w') := Lib.hid (fun u => prediction_2 q hq4 0 0 0 none 0 0 0 0 none none 0 0 0 0)
  have HRs : Hid (∀ (u : World) (A' : Option Addr) (n' c' : Nat), ISrc u (.slice A' n' c') (fx q) → ISrc u (.slice A n c) ys → Calls Tryz.prog 90 #[linV 4 0 (.slice A' n' c'), .slice A n c] u fun e w' => ∃ (A'' : Option Addr) (c'' : Nat), e = .returned (.tuple #[.slice A'' (n - q) c'', iv 0]) ∧ ISrc w' (.slice A'' (n - q) c'') (resV 4 0 (fx q) ys) ∧ (∀ ad, A'' = some ad → 0 < n - q → u.heap.size ≤ ad.block) ∧ Only Nix u w') := Lib.hid (fun u A' n' c' h1 h2 => by
    refine (K.residual_new 4 0 A' n' c' (fx q) A n c ys h1 h2 hn).mono ?_
    rintro e w' ⟨⟨⟨A'', c'', he, hs⟩, ho⟩, hf⟩
    rw [hrE, hrl, ← hyl] at he
    rw [hrl, ← hyl] at hs
    exact ⟨A'', c'', he, hs, fun ad e1 h0 => hf A'' (n - q) c'' _ he h0 ad e1, ho⟩)
  obtain ⟨p, hp⟩ : ∃ p, n - q = p := ⟨_, rfl⟩
  rw [hp] at HRs
  have hrl2 : (resV 4 0 (fx q) ys).length + q = n := by omega
  have hrl3 : 1 ≤ (resV 4 0 (fx q) ys).length := by omega
  generalize resV 4 0 (fx q) ys = rs at *
  have hckB : ckB ((rs.length : Int) + (q : Int)) q = 0 := by unfold ckB; rw [if_neg (by omega)]
  have hckP : ckP 0 (rs.length + q) q = 0 := by
    unfold ckP
    rw [if_neg]
    simp
    omega
  have HbE := Lib.hid (bestE_ok (od := 4) (k := q) (l := rs) (by decide) (by decide) hckB hckP)
  have HrF := Lib.hid (fun h : ∀ r ∈ rs, isR r => raw_fine hq4 hrl3 (by omega) h)
  have Hrl := Lib.hid hrl2
  have hqD : (q : Int) * (D : Int) = ((q * D : Nat) : Int) := by rw [Int.natCast_mul]
  have hqD2 : q * D ≤ 4 * 40 := Nat.mul_le_mul hq4 hD
  obtain ⟨QD, hQD⟩ : ∃ QD, q * D = QD := ⟨_, rfl⟩
  rw [hQD] at hqD hqD2
  have HQD := Lib.hid hqD
  clear hy hyl hqn hrE hrl a0 bq hS hckB hckP hQD hrl2 hqE
  go_enter Tryz.func57, Tryz.ntmps57
  go_wp2_with fail
  refine (HPb.out).mono ?_
  rintro e w1 ⟨rfl, o1⟩
  have HB1 := Lib.hid (HBq.out.only o1 (fun e => e))
  have HO1 := Lib.hid (HA.out.trans o1)
  clear o1 HPb
  go_wp2_with (refine wpList_store_row rfl 28 (.tmp 4) (.tmp 11) rfl rfl w.heap.size 28 zC (spC 2 q 0 0 0 (.slice none 0 0) 0 0 (.slice none 0 0) (.slice none 0 0)) rfl rfl HB1.out Tryz.size_plan rfl (spC_one _ _ _ _ _ _ _ _ _ _ _ _ _ _ _ _) ?st)
  case st =>
    intro w2 hb2 ho2
    have HB2 := Lib.hid hb2
    have HO2 : Hid (Only Nix w w2) := Lib.hid (HO1.out.then ho2 (fun i e => .inr (by cases e; exact Nat.le_refl _)))
    have z0 := hb2.cell 0
    have z1 := hb2.cell 1
    have z2 := hb2.cell 2
    have z3 := hb2.cell 3
    have z4 := hb2.cell 4
    have z5 := hb2.cell 5
    have z6 := hb2.cell 6
    have z7 := hb2.cell 7
    have z8 := hb2.cell 8
    have z9 := hb2.cell 9
    simp only [List.getElem?_toArray, List.getElem?_cons_zero, List.getElem?_cons_succ] at z0 z1 z2 z3 z4 z5 z6 z7 z8 z9
    clear hb2 ho2
    have HPr2 := Lib.hid (HPr.out w2)
    go_wp2_with fail
    refine (HPr2.out).mono ?_
    rintro e w3 ⟨A3, n3, c3', rfl, hs3, o3⟩
    have HB3 := Lib.hid (HB2.out.only o3 (fun e => e))
    have HO3 := Lib.hid (HO2.out.trans o3)
    have HRs3 := Lib.hid (HRs.out w3 A3 n3 c3' hs3 (HY0.out.nix HO3.out))
    clear z0 z1 z2 z3 z4 z5 z6 z7 z8 z9
    have z0 := HB3.out.cell 0
    have z1 := HB3.out.cell 1
    have z2 := HB3.out.cell 2
    have z3 := HB3.out.cell 3
    have z4 := HB3.out.cell 4
    have z5 := HB3.out.cell 5
    have z6 := HB3.out.cell 6
    have z7 := HB3.out.cell 7
    have z8 := HB3.out.cell 8
    have z9 := HB3.out.cell 9
    simp only [List.getElem?_toArray, List.getElem?_cons_zero, List.getElem?_cons_succ] at z0 z1 z2 z3 z4 z5 z6 z7 z8 z9
    clear hs3 o3 HPr2 HPr HRs
    go_wp2_with fail
    refine (HRs3.out).mono ?_
    rintro e w4 ⟨A4, c4', rfl, hs4, hg4, o4⟩
    have HB4 := Lib.hid (HB3.out.only o4 (fun e => e))
    have HO4 := Lib.hid (HO3.out.trans o4)
    have HS4 := Lib.hid hs4
    have HG4 := Lib.hid hg4
    have hw4 := HB4.out.lt
    have hw3 := HB3.out.lt
    have HBe := Lib.hid (best_any (w := w4) 4 (q : Int) A4 p c4' rs (by omega) (by omega) hs4)
    clear z0 z1 z2 z3 z4 z5 z6 z7 z8 z9
    have z0 := HB4.out.cell 0
    have z1 := HB4.out.cell 1
    have z2 := HB4.out.cell 2
    have z3 := HB4.out.cell 3
    have z4 := HB4.out.cell 4
    have z5 := HB4.out.cell 5
    have z6 := HB4.out.cell 6
    have z7 := HB4.out.cell 7
    have z8 := HB4.out.cell 8
    have z9 := HB4.out.cell 9
    simp only [List.getElem?_toArray, List.getElem?_cons_zero, List.getElem?_cons_succ] at z0 z1 z2 z3 z4 z5 z6 z7 z8 z9
    clear hs4 o4 HRs3 hg4
    go_wp2_with fail
    refine (HBe.out).mono ?_
    intro e w5 hB
    clear HBe
    clear z0 z1 z2 z3 z4 z5 z6 z7 z8 z9
    by_cases hR : ∀ r ∈ rs, isR r
    · have hE := HbE.out.1 hR
      rcases hB with ⟨h, _⟩ | ⟨_, v, rfl, hLR⟩
      · exact absurd hE h
      obtain ⟨m, o, A1, A2, n1, n2, c1, c2, ps, bs, st1, st2, he, hps, hbs, hnone, hsome, hblk, hsc0, hsc1, o5⟩ := hLR
      injection he with he
      subst he
      have e4 : (4 : Int).toNat = 4 := rfl
      rw [e4, Int.toNat_natCast] at hsc0 hsc1
      obtain ⟨x, rfl, hval, _⟩ := least_le (HrF.out hR) (Nat.zero_le 4) hsc0 hsc1
      obtain ⟨rfl, rfl, rfl, rfl, _⟩ := hsome x rfl
      have hfine := hval.fine (by decide) (by omega) (by have := Hrl.out; omega) hR
      have hsE := hfine.sizeE
      have hbd := block_bound hfine
      rw [blockB_len hfine, hfine.eq, Hrl.out] at hbd
      have HB5 := Lib.hid (HB4.out.only o5 (fun e => e))
      have HO5 := Lib.hid (HO4.out.trans o5)
      have HP5 := Lib.hid hps
      have HQ5 := Lib.hid hbs
      have HBk := Lib.hid hblk
      have HSc := Lib.hid (And.intro hsc0 hsc1)
      have HS5 := Lib.hid (HS4.out.nix o5)
      have HR := Lib.hid hR
      obtain ⟨sz, hsz⟩ : ∃ sz, sizeN (x.1 : Int) (x.2.1 : Int) (x.2.2.map (·.1)) (x.2.2.map (·.2)) q rs = sz := ⟨_, rfl⟩
      rw [hsz] at hbd
      have hbd2 : sz ≤ 6 + 4294967400 * 1000 := by omega
      have HSE := Lib.hid hsE
      have Hsz := Lib.hid hsz
      clear hE hps hbs hnone hsome hblk hsc0 hsc1 o5 e4 hval hfine hsE hbd hsz hR
      have z0 := HB5.out.cell 0
      have z1 := HB5.out.cell 1
      have z2 := HB5.out.cell 2
      have z3 := HB5.out.cell 3
      have z4 := HB5.out.cell 4
      have z5 := HB5.out.cell 5
      have z6 := HB5.out.cell 6
      have z7 := HB5.out.cell 7
      have z8 := HB5.out.cell 8
      have z9 := HB5.out.cell 9
      simp only [List.getElem?_toArray, List.getElem?_cons_zero, List.getElem?_cons_succ] at z0 z1 z2 z3 z4 z5 z6 z7 z8 z9
      go_wp2_with (refine wpList_store_part rfl 26 (.tmp 29) (.tmp 27) rfl rfl w.heap.size 6 28 (spC 2 q 0 0 0 (.slice none 0 0) 0 0 (.slice none 0 0) (.slice none 0 0)) #[iv x.1, iv x.2.1, .slice A1 n1 c1, .slice A2 n2 c2] (spC 2 q 0 0 0 (.slice none 0 0) x.1 x.2.1 (.slice A1 n1 c1) (.slice A2 n2 c2)) rfl rfl HB5.out Tryz.size_rplan7 (by simp) (by simp [Value.oneCell']) rfl ?st2)
      case st2 =>
        intro w6 hb6 ho6
        have HB6 := Lib.hid hb6
        have HO6 : Hid (Only Nix w w6) := Lib.hid (HO5.out.then ho6 (fun i e => .inr (by cases e; exact Nat.le_refl _)))
        have HP6 := Lib.hid (HP5.out.only ho6 (fun i _ hF ad n c e hn => by
          cases hF
          injection e with e1
          have := HBk.out ad (.inl e1)
          omega))
        have HQ6 := Lib.hid (HQ5.out.only ho6 (fun i _ hF ad n c e hn => by
          cases hF
          injection e with e1
          have := HBk.out ad (.inr e1)
          omega))
        have hs6 : ISrc w6 (.slice A4 p c4') rs := HS5.out.only ho6 (fun i _ hF ad n c e hn => by
          cases hF
          injection e with e1 e2 _
          subst e2
          have := HG4.out ad e1 hn
          omega)
        have HSz := Lib.hid (sizeR_any (w := w6) x.1 x.2.1 q p c4' A4 A1 A2 n1 n2 c1 c2 (x.2.2.map (·.1)) (x.2.2.map (·.2)) rs (by omega) (by omega) hs6 HP6.out HQ6.out)
        rw [HSE.out, Hsz.out] at HSz
        clear z0 z1 z2 z3 z4 z5 z6 z7 z8 z9
        clear hb6 ho6 hs6
        have k0 := HB6.out.cell 0
        have k1 := HB6.out.cell 1
        have k2 := HB6.out.cell 2
        have k3 := HB6.out.cell 3
        have k4 := HB6.out.cell 4
        have k5 := HB6.out.cell 5
        have k6 := HB6.out.cell 6
        have k7 := HB6.out.cell 7
        have k8 := HB6.out.cell 8
        have k9 := HB6.out.cell 9
        simp only [List.getElem?_toArray, List.getElem?_cons_zero, List.getElem?_cons_succ] at k0 k1 k2 k3 k4 k5 k6 k7 k8 k9
        go_wp2_with fail
        refine (HSz.out).mono ?_
        rintro e w7 ⟨rfl, o7⟩
        have HB7 := Lib.hid (HB6.out.only o7 (fun e => e))
        have HO7 := Lib.hid (HO6.out.trans o7)
        have HP7 := Lib.hid (HP6.out.nix o7)
        have HQ7 := Lib.hid (HQ6.out.nix o7)
        clear k0 k1 k2 k3 k4 k5 k6 k7 k8 k9
        clear o7 HSz
        have k0 := HB7.out.cell 0
        have k1 := HB7.out.cell 1
        have k2 := HB7.out.cell 2
        have k3 := HB7.out.cell 3
        have k4 := HB7.out.cell 4
        have k5 := HB7.out.cell 5
        have k6 := HB7.out.cell 6
        have k7 := HB7.out.cell 7
        have k8 := HB7.out.cell 8
        have k9 := HB7.out.cell 9
        simp only [List.getElem?_toArray, List.getElem?_cons_zero, List.getElem?_cons_succ] at k0 k1 k2 k3 k4 k5 k6 k7 k8 k9
        go_wp2_with (refine wpList_store_row rfl 28 (.tmp 4) (.tmp 42) rfl rfl w.heap.size 28 (spC 2 q 0 0 0 (.slice none 0 0) x.1 x.2.1 (.slice A1 n1 c1) (.slice A2 n2 c2)) (spC 2 q 0 0 0 (.slice none 0 0) x.1 x.2.1 (.slice A1 n1 c1) (.slice A2 n2 c2)) rfl rfl HB7.out Tryz.size_plan rfl (spC_one _ _ _ _ _ _ _ _ _ _ _ _ _ _ _ _) ?st3)
        case st3 =>
          intro w8 hb8 ho8
          have HO8 : Hid (Only Nix w w8) := Lib.hid (HO7.out.then ho8 (fun i e => .inr (by cases e; exact Nat.le_refl _)))
          have HP8 := Lib.hid (HP7.out.only ho8 (fun i _ hF ad n c e hn => by
            cases hF
            injection e with e1
            have := HBk.out ad (.inl e1)
            omega))
          have HQ8 := Lib.hid (HQ7.out.only ho8 (fun i _ hF ad n c e hn => by
            cases hF
            injection e with e1
            have := HBk.out ad (.inr e1)
            omega))
          clear k0 k1 k2 k3 k4 k5 k6 k7 k8 k9
          have y0 := hb8.cell 0
          have y1 := hb8.cell 1
          have y2 := hb8.cell 2
          have y3 := hb8.cell 3
          have y4 := hb8.cell 4
          have y5 := hb8.cell 5
          have y6 := hb8.cell 6
          have y7 := hb8.cell 7
          have y8 := hb8.cell 8
          have y9 := hb8.cell 9
          simp only [List.getElem?_toArray, List.getElem?_cons_zero, List.getElem?_cons_succ] at y0 y1 y2 y3 y4 y5 y6 y7 y8 y9
          clear hb8 ho8
          go_wp2
          refine bodyPost_ret (v := .tuple #[(spV 2 q 0 0 0 (.slice none 0 0) x.1 x.2.1 (.slice A1 n1 c1) (.slice A2 n2 c2)), iv ((QD : Int) + (sz : Int)), .bool true]) ?_ rfl ?_
          · simp [results, Tryz.f57, go_sem, y0, y1, y2, y3, y4, y5, y6, y7, y8, y9]
          exact .inr ⟨HR.out, x, st1, A1, A2, n1, c1, n2, c2, by rw [HQD.out, Hsz.out], HP8.out, HQ8.out, HSc.out.1, HSc.out.2, fun ad e => Nat.le_trans (Nat.le_of_lt hw4) (HBk.out ad e), HO8.out⟩
    · have hE := HbE.out.2 hR
      rcases hB with ⟨_, rfl, o5⟩ | ⟨h, _⟩
      · rw [hE]
        have HB5 := Lib.hid (HB4.out.only o5 (fun e => e))
        have HO5 := Lib.hid (HO4.out.trans o5)
        have HR := Lib.hid hR
        clear o5 hE hR
        have z0 := HB5.out.cell 0
        have z1 := HB5.out.cell 1
        have z2 := HB5.out.cell 2
        have z3 := HB5.out.cell 3
        have z4 := HB5.out.cell 4
        have z5 := HB5.out.cell 5
        have z6 := HB5.out.cell 6
        have z7 := HB5.out.cell 7
        have z8 := HB5.out.cell 8
        have z9 := HB5.out.cell 9
        simp only [List.getElem?_toArray, List.getElem?_cons_zero, List.getElem?_cons_succ] at z0 z1 z2 z3 z4 z5 z6 z7 z8 z9
        go_wp2_with (refine wpList_store_part rfl 26 (.tmp 29) (.tmp 27) rfl rfl w.heap.size 6 28 (spC 2 q 0 0 0 (.slice none 0 0) 0 0 (.slice none 0 0) (.slice none 0 0)) #[iv 0, iv 0, .slice none 0 0, .slice none 0 0] (spC 2 q 0 0 0 (.slice none 0 0) 0 0 (.slice none 0 0) (.slice none 0 0)) rfl rfl HB5.out Tryz.size_rplan7 (by simp) (by simp [Value.oneCell']) rfl ?st4)
        case st4 =>
          intro w6 hb6 ho6
          have HB6 := Lib.hid hb6
          have HO6 : Hid (Only Nix w w6) := Lib.hid (HO5.out.then ho6 (fun i e => .inr (by cases e; exact Nat.le_refl _)))
          clear z0 z1 z2 z3 z4 z5 z6 z7 z8 z9
          have k0 := hb6.cell 0
          have k1 := hb6.cell 1
          have k2 := hb6.cell 2
          have k3 := hb6.cell 3
          have k4 := hb6.cell 4
          have k5 := hb6.cell 5
          have k6 := hb6.cell 6
          have k7 := hb6.cell 7
          have k8 := hb6.cell 8
          have k9 := hb6.cell 9
          simp only [List.getElem?_toArray, List.getElem?_cons_zero, List.getElem?_cons_succ] at k0 k1 k2 k3 k4 k5 k6 k7 k8 k9
          clear hb6 ho6
          go_wp2_with (refine wpList_store_row rfl 28 (.tmp 4) (.tmp 32) rfl rfl w.heap.size 28 (spC 2 q 0 0 0 (.slice none 0 0) 0 0 (.slice none 0 0) (.slice none 0 0)) zC rfl rfl HB6.out Tryz.size_plan rfl (spC_one _ _ _ _ _ _ _ _ _ _ _ _ _ _ _ _) ?st5)
          case st5 =>
            intro w8 hb8 ho8
            have HO8 : Hid (Only Nix w w8) := Lib.hid (HO6.out.then ho8 (fun i e => .inr (by cases e; exact Nat.le_refl _)))
            clear k0 k1 k2 k3 k4 k5 k6 k7 k8 k9
            have y0 := hb8.cell 0
            have y1 := hb8.cell 1
            have y2 := hb8.cell 2
            have y3 := hb8.cell 3
            have y4 := hb8.cell 4
            have y5 := hb8.cell 5
            have y6 := hb8.cell 6
            have y7 := hb8.cell 7
            have y8 := hb8.cell 8
            have y9 := hb8.cell 9
            simp only [List.getElem?_toArray, List.getElem?_cons_zero, List.getElem?_cons_succ] at y0 y1 y2 y3 y4 y5 y6 y7 y8 y9
            clear hb8 ho8
            go_wp2
            refine bodyPost_ret (v := .tuple #[zP, iv 0, .bool false]) ?_ rfl ?_
            · simp [results, Tryz.f57, go_sem, y0, y1, y2, y3, y4, y5, y6, y7, y8, y9]
            exact .inl ⟨HR.out, rfl, HO8.out⟩
      · rw [hE] at h
        exact absurd h (by decide)
end Go.Proofs.YteklfkpeaadinaaGreatDoor.S
