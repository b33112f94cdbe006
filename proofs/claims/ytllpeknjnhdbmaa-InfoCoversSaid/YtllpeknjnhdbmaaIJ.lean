/-
  InfoRefuses: its walk.
-/
import Derived.Test.YtllpeknjnhdbmaaIH
namespace Go.Proofs.Ytllpeknjnhdbmaa
open Go.RowKit Go.Shelf

/-- a piece at place k that is at odds with an info -/
def bdB (i : Nf) (n k : Nat) (p : Int × Int) : Bool := ((decide (i.xb < p.1) || (decide ((k : Int) + 1 < (n : Int)) && decide (p.1 < i.mb))) || (decide (0 < i.mf) && decide (p.2 < i.mf))) || (decide (0 < i.xf) && decide (i.xf < p.2))
def anyBad (i : Nf) (l : List (Int × Int)) (k : Nat) : Bool := (List.range k).any fun j => bdB i l.length j (l.getD j (0, 0))
theorem anyBad_succ (i : Nf) (l : List (Int × Int)) (k : Nat) (h : k < l.length) : anyBad i l (k + 1) = (anyBad i l k || bdB i l.length k l[k]) := by
  unfold anyBad
  rw [List.range_succ, List.any_append]
  simp [List.getD_eq_getElem?_getD, List.getElem?_eq_getElem h]
theorem bd_parts (i : Nf) (n k : Nat) (p : Int × Int) (hf : 0 ≤ i.mf) (hx : 0 ≤ i.xf) : bdB i n k p = true ↔ exB i p = true ∨ (k + 1 < n ∧ shB i p = true) := by
  unfold bdB exB shB
  simp only [Bool.or_eq_true, Bool.and_eq_true, decide_eq_true_eq, bne_iff_ne, ne_eq]
  omega
theorem anyBad_cv (i : Nf) (l : List (Int × Int)) (hf : 0 ≤ i.mf) (hx : 0 ≤ i.xf) : anyBad i l l.length = (l.any (exB i) || (l.take (l.length - 1)).any (shB i)) := by
  rw [Bool.eq_iff_iff]
  unfold anyBad
  rw [List.any_eq_true, Bool.or_eq_true, List.any_eq_true, List.any_eq_true]
  constructor
  · rintro ⟨j, hj, hb⟩
    have hj' : j < l.length := List.mem_range.1 hj
    rw [List.getD_eq_getElem?_getD, List.getElem?_eq_getElem hj', Option.getD_some, bd_parts i _ _ _ hf hx] at hb
    rcases hb with hb | ⟨h1, hb⟩
    · exact .inl ⟨_, List.getElem_mem hj', hb⟩
    · refine .inr ⟨l[j], ?_, hb⟩
      have hjt : j < (l.take (l.length - 1)).length := by rw [List.length_take]; omega
      have := List.getElem_mem hjt
      rwa [List.getElem_take] at this
  · rintro (⟨p, hp, hb⟩ | ⟨p, hp, hb⟩)
    · obtain ⟨j, hj, rfl⟩ := List.getElem_of_mem hp
      refine ⟨j, List.mem_range.2 hj, ?_⟩
      rw [List.getD_eq_getElem?_getD, List.getElem?_eq_getElem hj, Option.getD_some, bd_parts i _ _ _ hf hx]
      exact .inl hb
    · obtain ⟨j, hj, rfl⟩ := List.getElem_of_mem hp
      rw [List.length_take] at hj
      refine ⟨j, List.mem_range.2 (by omega), ?_⟩
      rw [List.getElem_take] at hb
      rw [List.getD_eq_getElem?_getD, List.getElem?_eq_getElem (by omega), Option.getD_some, bd_parts i _ _ _ hf hx]
      exact .inr ⟨by omega, hb⟩
/-- what is wanted behind the loop -/
def w22 (b : Bool) : Int := if b = true then 22 else 0
theorem cv_total {i : Nf} {l : List (Int × Int)} (h0 : l ≠ []) (h1 : i.t ≠ 0) (h2 : i.t ≠ sumB l) : cvE i l = 22 := by
  unfold cvE
  rw [if_neg h0]
  split
  · rfl
  · split
    · rfl
    · exact if_pos ⟨h1, h2⟩
theorem cv_any {i : Nf} {l : List (Int × Int)} (h0 : l ≠ []) (hf : 0 ≤ i.mf) (hx : 0 ≤ i.xf) (h1 : i.t = 0 ∨ i.t = sumB l) : cvE i l = w22 (anyBad i l l.length) := by
  unfold cvE w22
  rw [if_neg h0, anyBad_cv i l hf hx]
  have h2 : ¬ (i.t ≠ 0 ∧ i.t ≠ sumB l) := by rintro ⟨a, b⟩; rcases h1 with h | h; exact a h; exact b h
  rw [if_neg h2]
  cases l.any (exB i) <;> cases (l.take (l.length - 1)).any (shB i) <;> rfl
def RfRel (W : World) (i : Nf) (l : List (Int × Int)) (s5 s6 s7 : Value) (wr : World) : Prop := ∃ k : Nat, k ≤ l.length ∧ s7 = iv k ∧ s6 = iv (sumB (l.take k)) ∧ s5 = iv (w22 (anyBad i l k)) ∧ Only Nix W wr
set_option maxRecDepth 100000 in
set_option maxHeartbeats 16000000 in
theorem refuses_any {w : World} {v : Value} (i : Nf) (hi : SumOk i.s) {l : List (Int × Int)} (hv : PSrc w v l) :
    Calls Try.prog 8 #[.agg (nfc i), v] w fun e w' => e = .returned (.bool true) ∧ Only Nix w w' := by
  obtain ⟨A, cc, rfl⟩ := hv.slice
  have hsm := hv.small
  have a1 := (Only.refl Nix w).alloc (.cells (nfc i) 26)
  have b1 := Box.new w 26 (nfc i)
  obtain ⟨C, hC⟩ : ∃ C, nfc i = C := ⟨_, rfl⟩
  have HV := Lib.hid (hv.nix a1)
  rw [hC]
  rw [hC] at a1 b1 HV
  obtain ⟨W1, hW1⟩ : ∃ W1, w.alloc (.cells C 26) = W1 := ⟨_, rfl⟩
  rw [hW1] at a1 b1 HV
  have q3 := (b1.cell 3).trans (show C[3]? = some (iv i.mb) from by rw [← hC]; exact nfc_3 i)
  have q4 := (b1.cell 4).trans (show C[4]? = some (iv i.xb) from by rw [← hC]; exact nfc_4 i)
  have q5 := (b1.cell 5).trans (show C[5]? = some (iv i.mf) from by rw [← hC]; exact nfc_5 i)
  have q6 := (b1.cell 6).trans (show C[6]? = some (iv i.xf) from by rw [← hC]; exact nfc_6 i)
  have q7 := (b1.cell 7).trans (show C[7]? = some (iv i.t) from by rw [← hC]; exact nfc_7 i)
  have Q3 := Lib.hid q3
  have Q4 := Lib.hid q4
  have Q5 := Lib.hid q5
  have Q6 := Lib.hid q6
  have Q7 := Lib.hid q7
  have HC := Lib.hid hC
  have HB := Lib.hid (show Box W1 w.heap.size 26 (nfc i) from by rw [hC]; exact b1)
  have HO := Lib.hid a1
  have HI := Lib.hid hi
  have HFw := Lib.hid (few_any HV.out)
  have HAw : Hid (∀ u, Calls Try.prog 13 #[] u fun e w' => e = .returned (.bool true) ∧ Only Nix u w') := Lib.hid awake_any
  clear a1 b1 hv hC hi q3 q4 q5 q6 q7
  by_cases hfew : Few l
  · rw [decide_eq_true hfew] at HFw
    have HL := Lib.hid hfew.ok
    have HCv : Hid (∀ u, Only Nix W1 u → Calls Try.prog 22 #[.agg C, .slice A l.length cc] u fun e w' => e = .returned (iv (cvE i l)) ∧ Only Nix u w') := Lib.hid (fun u hu => by rw [← HC.out]; exact covers_any i HI.out (HV.out.nix hu) HL.out)
    have hlen : l.length ≤ 101 := hfew.ok.1
    clear hfew
    go_enter Try.func8, Try.ntmps8
    go_wp2_with fail
    refine (HFw.out).mono ?_
    rintro e w2 ⟨rfl, rfl⟩
    go_wp2
    go_loopw [5, 6, 7] (fun s5 s6 s7 wr => RfRel W1 i l s5 s6 s7 wr) (fun _ _ s7 _ => l.length - (intOf s7).toNat)
    case atStart => exact ⟨0, Nat.zero_le _, rfl, rfl, rfl, Only.refl _ _⟩
    case round =>
      obtain ⟨k, hk, rfl, rfl, rfl, ho⟩ := hrel
      have HOr := Lib.hid ho
      by_cases hlt : k < l.length
      · obtain ⟨ad, rfl, hx, hy⟩ := (HV.out.nix ho).at_ hlt
        have hlti : (k : Int) < (l.length : Int) := by omega
        have HSm := Lib.hid (show sumB (l.take (k + 1)) = sumB (l.take k) + l[k].1 by rw [List.take_succ_eq_append_getElem hlt, sumB_snoc])
        have HAb := Lib.hid (anyBad_succ i l k hlt)
        have b1 := (HL.out.take k).sum
        have b2 := (HL.out.take (k + 1)).sum
        rw [HSm.out] at b2
        generalize l[k] = p at *
        generalize sumB (l.take k) = S at *
        have HX := Lib.hid hx
        have HY := Lib.hid hy
        obtain ⟨a, ha⟩ : ∃ z, decide (i.xb < p.1) = z := ⟨_, rfl⟩
        obtain ⟨b, hb⟩ : ∃ z, decide ((k : Int) + 1 < (l.length : Int)) = z := ⟨_, rfl⟩
        obtain ⟨c, hc⟩ : ∃ z, decide (p.1 < i.mb) = z := ⟨_, rfl⟩
        obtain ⟨d, hd⟩ : ∃ z, decide (0 < i.mf) = z := ⟨_, rfl⟩
        obtain ⟨e, he⟩ : ∃ z, decide (p.2 < i.mf) = z := ⟨_, rfl⟩
        obtain ⟨f, hf⟩ : ∃ z, decide (0 < i.xf) = z := ⟨_, rfl⟩
        obtain ⟨g, hg⟩ : ∃ z, decide (i.xf < p.2) = z := ⟨_, rfl⟩
        obtain ⟨g1, hg1⟩ : ∃ z, (a || (b && c)) = z := ⟨_, rfl⟩
        obtain ⟨g2, hg2⟩ : ∃ z, (g1 || (d && e)) = z := ⟨_, rfl⟩
        obtain ⟨g3, hg3⟩ : ∃ z, (g2 || (f && g)) = z := ⟨_, rfl⟩
        have HBd : Hid (bdB i l.length k p = g3) := Lib.hid (by unfold bdB; rw [ha, hb, hc, hd, he, hf, hg, hg1, hg2, hg3])
        have Ha := Lib.hid ha
        have Hb := Lib.hid hb
        have Hc := Lib.hid hc
        have Hd := Lib.hid hd
        have He := Lib.hid he
        have Hf := Lib.hid hf
        have Hg := Lib.hid hg
        have Hg1 := Lib.hid hg1
        have Hg2 := Lib.hid hg2
        have Hg3 := Lib.hid hg3
        have hw1k : wrap64 ((k : Int) + 1) = (k : Int) + 1 := w64 _ (by omega) (by omega)
        clear ho ha hb hc hd he hf hg hg1 hg2 hg3
        go_wp2_with fail
        have fr_R : ∀ j s, j < 55 → (([some 25, some 26, some 27, some 28, some 29, some 30, some 31, some 32, some 33, some 34, some 35, some 36, some 37, some 38, some 39, some 40, some 41, some 42, some 43, some 44, some 45, some 46, some 47, some 48, some 49, some 50, some 51, some 52, some 53, some 54, some 55, some 56, some 57, some 58, some 59, some 60, some 61, some 62, some 63, some 64, some 65, some 66, some 67, some 68, some 69, some 70, some 71, some 72, some 73, some 74, some 75, some 76, some 77, some 78, some 79] : List (Option Nat)).all fun d => d != some s) = true → ([some 25, some 26, some 27, some 28, some 29, some 30, some 31, some 32, some 33, some 34, some 35, some 36, some 37, some 38, some 39, some 40, some 41, some 42, some 43, some 44, some 45, some 46, some 47, some 48, some 49, some 50, some 51, some 52, some 53, some 54, some 55, some 56, some 57, some 58, some 59, some 60, some 61, some 62, some 63, some 64, some 65, some 66, some 67, some 68, some 69, some 70, some 71, some 72, some 73, some 74, some 75, some 76, some 77, some 78, some 79] : List (Option Nat)).getD j none ≠ some s := by
          intro j s hj ha e
          rw [List.getD_eq_getElem?_getD, List.getElem?_eq_getElem (by exact hj), Option.getD_some] at e
          have := List.all_eq_true.1 ha _ (List.getElem_mem (by exact hj))
          rw [e] at this
          simp at this
        refine region_tel (by kernel_rfl) (fun k0 => ([some 25, some 26, some 27, some 28, some 29, some 30, some 31, some 32, some 33, some 34, some 35, some 36, some 37, some 38, some 39, some 40, some 41, some 42, some 43, some 44, some 45, some 46, some 47, some 48, some 49, some 50, some 51, some 52, some 53, some 54, some 55, some 56, some 57, some 58, some 59, some 60, some 61, some 62, some 63, some 64, some 65, some 66, some 67, some 68, some 69, some 70, some 71, some 72, some 73, some 74, some 75, some 76, some 77, some 78, some 79] : List (Option Nat)).getD k0 none) (PL [eqP (.slice (some ad) l.length cc), eqP (iv k), eqP (.pointer (some (ad.add (k * 2)))), eqP (.pointer (some (ad.add (k * 2)))), eqP (iv p.1), eqP (.pointer (some ⟨w.heap.size, 4, none⟩)), eqP (iv i.xb), eqP (.bool a), eqP (.bool a), eqP (gv (!a) (iv k)), eqP (gv (!a) (iv ((k : Int) + 1))), eqP (gv (!a) (.slice (some ad) l.length cc)), eqP (gv (!a) (iv l.length)), eqP (gv (!a) (.bool b)), eqP (gv (!a) (.bool b)), eqP (gv (!a && b) (.slice (some ad) l.length cc)), eqP (gv (!a && b) (iv k)), eqP (gv (!a && b) (.pointer (some (ad.add (k * 2))))), eqP (gv (!a && b) (.pointer (some (ad.add (k * 2))))), eqP (gv (!a && b) (iv p.1)), eqP (gv (!a && b) (.pointer (some ⟨w.heap.size, 3, none⟩))), eqP (gv (!a && b) (iv i.mb)), eqP (gv (!a && b) (.bool c)), eqP (gv (!a) (.bool (b && c))), eqP (.bool g1), eqP (.bool g1), eqP (gv (!g1) (.pointer (some ⟨w.heap.size, 5, none⟩))), eqP (gv (!g1) (iv i.mf)), eqP (gv (!g1) (.bool d)), eqP (gv (!g1) (.bool d)), eqP (gv (!g1 && d) (.slice (some ad) l.length cc)), eqP (gv (!g1 && d) (iv k)), eqP (gv (!g1 && d) (.pointer (some (ad.add (k * 2))))), eqP (gv (!g1 && d) (.pointer (some ⟨(ad.add (k * 2)).block, (ad.add (k * 2)).off + 1, none⟩))), eqP (gv (!g1 && d) (iv p.2)), eqP (gv (!g1 && d) (.pointer (some ⟨w.heap.size, 5, none⟩))), eqP (gv (!g1 && d) (iv i.mf)), eqP (gv (!g1 && d) (.bool e)), eqP (gv (!g1) (.bool (d && e))), eqP (.bool g2), eqP (.bool g2), eqP (gv (!g2) (.pointer (some ⟨w.heap.size, 6, none⟩))), eqP (gv (!g2) (iv i.xf)), eqP (gv (!g2) (.bool f)), eqP (gv (!g2) (.bool f)), eqP (gv (!g2 && f) (.slice (some ad) l.length cc)), eqP (gv (!g2 && f) (iv k)), eqP (gv (!g2 && f) (.pointer (some (ad.add (k * 2))))), eqP (gv (!g2 && f) (.pointer (some ⟨(ad.add (k * 2)).block, (ad.add (k * 2)).off + 1, none⟩))), eqP (gv (!g2 && f) (iv p.2)), eqP (gv (!g2 && f) (.pointer (some ⟨w.heap.size, 6, none⟩))), eqP (gv (!g2 && f) (iv i.xf)), eqP (gv (!g2 && f) (.bool g)), eqP (gv (!g2) (.bool (f && g))), eqP (.bool g3)]) (fun _ _ => True) (fun _ u => Only Nix wr u) 115 55 rfl (by kernel_rfl) (by kernel_rfl) rfl (by kernel_rfl) (by kernel_rfl) (stab_all ⟨fun _ _ _ h _ => h, fun _ _ _ h _ => h, fun _ _ _ h _ => h, fun _ _ _ h _ => h, fun _ _ _ h _ => h, fun _ _ _ h _ => h, fun _ _ _ h _ => h, fun _ _ _ h _ => h, fun _ _ _ h _ => h, fun _ _ _ h _ => h, fun _ _ _ h _ => h, fun _ _ _ h _ => h, fun _ _ _ h _ => h, fun _ _ _ h _ => h, fun _ _ _ h _ => h, fun _ _ _ h _ => h, fun _ _ _ h _ => h, fun _ _ _ h _ => h, fun _ _ _ h _ => h, fun _ _ _ h _ => h, fun _ _ _ h _ => h, fun _ _ _ h _ => h, fun _ _ _ h _ => h, fun _ _ _ h _ => h, fun _ _ _ h _ => h, fun _ _ _ h _ => h, fun _ _ _ h _ => h, fun _ _ _ h _ => h, fun _ _ _ h _ => h, fun _ _ _ h _ => h, fun _ _ _ h _ => h, fun _ _ _ h _ => h, fun _ _ _ h _ => h, fun _ _ _ h _ => h, fun _ _ _ h _ => h, fun _ _ _ h _ => h, fun _ _ _ h _ => h, fun _ _ _ h _ => h, fun _ _ _ h _ => h, fun _ _ _ h _ => h, fun _ _ _ h _ => h, fun _ _ _ h _ => h, fun _ _ _ h _ => h, fun _ _ _ h _ => h, fun _ _ _ h _ => h, fun _ _ _ h _ => h, fun _ _ _ h _ => h, fun _ _ _ h _ => h, fun _ _ _ h _ => h, fun _ _ _ h _ => h, fun _ _ _ h _ => h, fun _ _ _ h _ => h, fun _ _ _ h _ => h, fun _ _ _ h _ => h, fun _ _ _ h _ => h, trivial⟩) ((Only.refl _ _).drew) ?stepsR (fun vs => [(25, vs 0), (26, vs 1), (27, vs 2), (28, vs 3), (29, vs 4), (30, vs 5), (31, vs 6), (32, vs 7), (33, vs 8), (34, vs 9), (35, vs 10), (36, vs 11), (37, vs 12), (38, vs 13), (39, vs 14), (40, vs 15), (41, vs 16), (42, vs 17), (43, vs 18), (44, vs 19), (45, vs 20), (46, vs 21), (47, vs 22), (48, vs 23), (49, vs 24), (50, vs 25), (51, vs 26), (52, vs 27), (53, vs 28), (54, vs 29), (55, vs 30), (56, vs 31), (57, vs 32), (58, vs 33), (59, vs 34), (60, vs 35), (61, vs 36), (62, vs 37), (63, vs 38), (64, vs 39), (65, vs 40), (66, vs 41), (67, vs 42), (68, vs 43), (69, vs 44), (70, vs 45), (71, vs 46), (72, vs 47), (73, vs 48), (74, vs 49), (75, vs 50), (76, vs 51), (77, vs 52), (78, vs 53), (79, vs 54)]) (fun vs => rfl) ?doneR
        case stepsR =>
          refine ⟨?_, ?_, ?_, ?_, ?_, ?_, ?_, ?_, ?_, ?_, ?_, ?_, ?_, ?_, ?_, ?_, ?_, ?_, ?_, ?_, ?_, ?_, ?_, ?_, ?_, ?_, ?_, ?_, ?_, ?_, ?_, ?_, ?_, ?_, ?_, ?_, ?_, ?_, ?_, ?_, ?_, ?_, ?_, ?_, ?_, ?_, ?_, ?_, ?_, ?_, ?_, ?_, ?_, ?_, ?_, trivial⟩
          · intro L vs A' u hW hL0 hnd K' hK
            have hS := hW.wi.s
            have r1 : A'.tmps[1]? = some (.slice (some ad) l.length cc) := (hW.out 1 (fun j hj => fr_R j 1 hj (by kernel_rfl))).trans rfl
            go_simp
            exact hK _ _ (by first | rfl | (show _ = _; simp)) trivial (hS)
          · intro L vs A' u hW hL0 hnd K' hK
            have hS := hW.wi.s
            have r7 : A'.tmps[7]? = some (iv k) := (hW.out 7 (fun j hj => fr_R j 7 hj (by kernel_rfl))).trans rfl
            go_simp
            exact hK _ _ (by first | rfl | (show _ = _; simp)) trivial (hS)
          · intro L vs A' u hW hL0 hnd K' hK
            have hS := hW.wi.s
            have r25 : A'.tmps[25]? = some (.slice (some ad) l.length cc) := by
              obtain ⟨x, e, h⟩ := hW.tel 0 25 (by decide) (hnd 0 (by kernel_rfl)) rfl
              rw [e]; exact congrArg some h
            have r26 : A'.tmps[26]? = some (iv k) := by
              obtain ⟨x, e, h⟩ := hW.tel 1 26 (by decide) (hnd 1 (by kernel_rfl)) rfl
              rw [e]; exact congrArg some h
            go_simp
            exact hK _ _ (by first | rfl | (show _ = _; simp)) trivial (hS)
          · intro L vs A' u hW hL0 hnd K' hK
            have hS := hW.wi.s
            have r27 : A'.tmps[27]? = some (.pointer (some (ad.add (k * 2)))) := by
              obtain ⟨x, e, h⟩ := hW.tel 2 27 (by decide) (hnd 2 (by kernel_rfl)) rfl
              rw [e]; exact congrArg some h
            go_simp
            exact hK _ _ (by first | rfl | (show _ = _; simp)) trivial (hS)
          · intro L vs A' u hW hL0 hnd K' hK
            have hS := hW.wi.s
            have r28 : A'.tmps[28]? = some (.pointer (some (ad.add (k * 2)))) := by
              obtain ⟨x, e, h⟩ := hW.tel 3 28 (by decide) (hnd 3 (by kernel_rfl)) rfl
              rw [e]; exact congrArg some h
            have hc := cell_keep hS HX.out
            go_simp
            exact hK _ _ (by first | rfl | (show _ = _; simp)) trivial (hS)
          · intro L vs A' u hW hL0 hnd K' hK
            have hS := hW.wi.s
            have r2 : A'.tmps[2]? = some (.pointer (some ⟨w.heap.size, 0, none⟩)) := (hW.out 2 (fun j hj => fr_R j 2 hj (by kernel_rfl))).trans rfl
            go_simp
            exact hK _ _ (by first | rfl | (show _ = _; simp)) trivial (hS)
          · intro L vs A' u hW hL0 hnd K' hK
            have hS := hW.wi.s
            have r30 : A'.tmps[30]? = some (.pointer (some ⟨w.heap.size, 4, none⟩)) := by
              obtain ⟨x, e, h⟩ := hW.tel 5 30 (by decide) (hnd 5 (by kernel_rfl)) rfl
              rw [e]; exact congrArg some h
            have hc := cell_keep hS (cell_keep HOr.out Q4.out)
            go_simp
            exact hK _ _ (by first | rfl | (show _ = _; simp)) trivial (hS)
          · intro L vs A' u hW hL0 hnd K' hK
            have hS := hW.wi.s
            have r29 : A'.tmps[29]? = some (iv p.1) := by
              obtain ⟨x, e, h⟩ := hW.tel 4 29 (by decide) (hnd 4 (by kernel_rfl)) rfl
              rw [e]; exact congrArg some h
            have r31 : A'.tmps[31]? = some (iv i.xb) := by
              obtain ⟨x, e, h⟩ := hW.tel 6 31 (by decide) (hnd 6 (by kernel_rfl)) rfl
              rw [e]; exact congrArg some h
            go_simp
            exact hK _ _ (by first | rfl | exact congrArg Value.bool Ha.out | (refine congrArg Value.bool (Eq.trans ?_ Ha.out); rw [decide_eq_decide]; omega)) trivial (hS)
          · intro L vs A' u hW hL0 hnd K' hK
            have hS := hW.wi.s
            have r32 : A'.tmps[32]? = some (.bool a) := by
              obtain ⟨x, e, h⟩ := hW.tel 7 32 (by decide) (hnd 7 (by kernel_rfl)) rfl
              rw [e]; exact congrArg some h
            go_simp
            exact hK _ _ (by first | rfl | (show _ = _; simp)) trivial (hS)
          · intro L vs A' u hW hL0 hnd K' hK
            have hS := hW.wi.s
            have r7 : A'.tmps[7]? = some (iv k) := (hW.out 7 (fun j hj => fr_R j 7 hj (by kernel_rfl))).trans rfl
            have r33 : A'.tmps[33]? = some (.bool a) := by
              obtain ⟨x, e, h⟩ := hW.tel 8 33 (by decide) (hnd 8 (by kernel_rfl)) rfl
              rw [e]; exact congrArg some h
            cases a
            all_goals
              first
              | (rw [if_pos (wanted_yes (j := 8) (s := 33) (b := false) rfl (by kernel_rfl) r33)]
                 go_simp
                 exact hK _ _ (by first | rfl | (show _ = _; simp)) trivial (hS))
              | (rw [if_neg (wanted_no (j := 8) (s := 33) (b := false) rfl (by kernel_rfl) r33)]
                 exact hK _ _ rfl trivial (hS))
              | (rw [if_neg (wanted_no2 (j := 8) (s := 33) (b := false) rfl (by kernel_rfl) r33)]
                 exact hK _ _ rfl trivial (hS))
          · intro L vs A' u hW hL0 hnd K' hK
            have hS := hW.wi.s
            have r34 : A'.tmps[34]? = some (gv (!a) (iv k)) := by
              obtain ⟨x, e, h⟩ := hW.tel 9 34 (by decide) (hnd 9 (by kernel_rfl)) rfl
              rw [e]; exact congrArg some h
            have r33 : A'.tmps[33]? = some (.bool a) := by
              obtain ⟨x, e, h⟩ := hW.tel 8 33 (by decide) (hnd 8 (by kernel_rfl)) rfl
              rw [e]; exact congrArg some h
            cases a
            all_goals first | replace r34 := gv_yes r34 rfl | replace r34 := gv_no r34 rfl
            all_goals
              first
              | (rw [if_pos (wanted_yes (j := 8) (s := 33) (b := false) rfl (by kernel_rfl) r33)]
                 go_simp
                 exact hK _ _ (by first | rfl | (show Value.int .i64 _ = Value.int .i64 _; exact congrArg _ (wraps_i64 _ (by omega) (by omega)))) trivial (hS))
              | (rw [if_neg (wanted_no (j := 8) (s := 33) (b := false) rfl (by kernel_rfl) r33)]
                 exact hK _ _ rfl trivial (hS))
              | (rw [if_neg (wanted_no2 (j := 8) (s := 33) (b := false) rfl (by kernel_rfl) r33)]
                 exact hK _ _ rfl trivial (hS))
          · intro L vs A' u hW hL0 hnd K' hK
            have hS := hW.wi.s
            have r1 : A'.tmps[1]? = some (.slice (some ad) l.length cc) := (hW.out 1 (fun j hj => fr_R j 1 hj (by kernel_rfl))).trans rfl
            have r33 : A'.tmps[33]? = some (.bool a) := by
              obtain ⟨x, e, h⟩ := hW.tel 8 33 (by decide) (hnd 8 (by kernel_rfl)) rfl
              rw [e]; exact congrArg some h
            cases a
            all_goals
              first
              | (rw [if_pos (wanted_yes (j := 8) (s := 33) (b := false) rfl (by kernel_rfl) r33)]
                 go_simp
                 exact hK _ _ (by first | rfl | (show _ = _; simp)) trivial (hS))
              | (rw [if_neg (wanted_no (j := 8) (s := 33) (b := false) rfl (by kernel_rfl) r33)]
                 exact hK _ _ rfl trivial (hS))
              | (rw [if_neg (wanted_no2 (j := 8) (s := 33) (b := false) rfl (by kernel_rfl) r33)]
                 exact hK _ _ rfl trivial (hS))
          · intro L vs A' u hW hL0 hnd K' hK
            have hS := hW.wi.s
            have r36 : A'.tmps[36]? = some (gv (!a) (.slice (some ad) l.length cc)) := by
              obtain ⟨x, e, h⟩ := hW.tel 11 36 (by decide) (hnd 11 (by kernel_rfl)) rfl
              rw [e]; exact congrArg some h
            have r33 : A'.tmps[33]? = some (.bool a) := by
              obtain ⟨x, e, h⟩ := hW.tel 8 33 (by decide) (hnd 8 (by kernel_rfl)) rfl
              rw [e]; exact congrArg some h
            cases a
            all_goals first | replace r36 := gv_yes r36 rfl | replace r36 := gv_no r36 rfl
            all_goals
              first
              | (rw [if_pos (wanted_yes (j := 8) (s := 33) (b := false) rfl (by kernel_rfl) r33)]
                 go_simp
                 exact hK _ _ (by first | rfl | (show _ = _; simp)) trivial (hS))
              | (rw [if_neg (wanted_no (j := 8) (s := 33) (b := false) rfl (by kernel_rfl) r33)]
                 exact hK _ _ rfl trivial (hS))
              | (rw [if_neg (wanted_no2 (j := 8) (s := 33) (b := false) rfl (by kernel_rfl) r33)]
                 exact hK _ _ rfl trivial (hS))
          · intro L vs A' u hW hL0 hnd K' hK
            have hS := hW.wi.s
            have r35 : A'.tmps[35]? = some (gv (!a) (iv ((k : Int) + 1))) := by
              obtain ⟨x, e, h⟩ := hW.tel 10 35 (by decide) (hnd 10 (by kernel_rfl)) rfl
              rw [e]; exact congrArg some h
            have r37 : A'.tmps[37]? = some (gv (!a) (iv l.length)) := by
              obtain ⟨x, e, h⟩ := hW.tel 12 37 (by decide) (hnd 12 (by kernel_rfl)) rfl
              rw [e]; exact congrArg some h
            have r33 : A'.tmps[33]? = some (.bool a) := by
              obtain ⟨x, e, h⟩ := hW.tel 8 33 (by decide) (hnd 8 (by kernel_rfl)) rfl
              rw [e]; exact congrArg some h
            cases a
            all_goals first | replace r35 := gv_yes r35 rfl | replace r35 := gv_no r35 rfl
            all_goals first | replace r37 := gv_yes r37 rfl | replace r37 := gv_no r37 rfl
            all_goals
              first
              | (rw [if_pos (wanted_yes (j := 8) (s := 33) (b := false) rfl (by kernel_rfl) r33)]
                 go_simp
                 exact hK _ _ (by first | rfl | exact congrArg Value.bool Hb.out | (refine congrArg Value.bool (Eq.trans ?_ Hb.out); rw [decide_eq_decide]; omega)) trivial (hS))
              | (rw [if_neg (wanted_no (j := 8) (s := 33) (b := false) rfl (by kernel_rfl) r33)]
                 exact hK _ _ rfl trivial (hS))
              | (rw [if_neg (wanted_no2 (j := 8) (s := 33) (b := false) rfl (by kernel_rfl) r33)]
                 exact hK _ _ rfl trivial (hS))
          · intro L vs A' u hW hL0 hnd K' hK
            have hS := hW.wi.s
            have r38 : A'.tmps[38]? = some (gv (!a) (.bool b)) := by
              obtain ⟨x, e, h⟩ := hW.tel 13 38 (by decide) (hnd 13 (by kernel_rfl)) rfl
              rw [e]; exact congrArg some h
            have r33 : A'.tmps[33]? = some (.bool a) := by
              obtain ⟨x, e, h⟩ := hW.tel 8 33 (by decide) (hnd 8 (by kernel_rfl)) rfl
              rw [e]; exact congrArg some h
            cases a
            all_goals first | replace r38 := gv_yes r38 rfl | replace r38 := gv_no r38 rfl
            all_goals
              first
              | (rw [if_pos (wanted_yes (j := 8) (s := 33) (b := false) rfl (by kernel_rfl) r33)]
                 go_simp
                 exact hK _ _ (by first | rfl | (show _ = _; simp)) trivial (hS))
              | (rw [if_neg (wanted_no (j := 8) (s := 33) (b := false) rfl (by kernel_rfl) r33)]
                 exact hK _ _ rfl trivial (hS))
              | (rw [if_neg (wanted_no2 (j := 8) (s := 33) (b := false) rfl (by kernel_rfl) r33)]
                 exact hK _ _ rfl trivial (hS))
          · intro L vs A' u hW hL0 hnd K' hK
            have hS := hW.wi.s
            have r1 : A'.tmps[1]? = some (.slice (some ad) l.length cc) := (hW.out 1 (fun j hj => fr_R j 1 hj (by kernel_rfl))).trans rfl
            have r39 : A'.tmps[39]? = some (gv (!a) (.bool b)) := by
              obtain ⟨x, e, h⟩ := hW.tel 14 39 (by decide) (hnd 14 (by kernel_rfl)) rfl
              rw [e]; exact congrArg some h
            cases a <;> cases b
            all_goals first | replace r39 := gv_yes r39 rfl | replace r39 := gv_no r39 rfl
            all_goals
              first
              | (rw [if_pos (wanted_yes (j := 14) (s := 39) (b := true) rfl (by kernel_rfl) r39)]
                 go_simp
                 exact hK _ _ (by first | rfl | (show _ = _; simp)) trivial (hS))
              | (rw [if_neg (wanted_no (j := 14) (s := 39) (b := true) rfl (by kernel_rfl) r39)]
                 exact hK _ _ rfl trivial (hS))
              | (rw [if_neg (wanted_no2 (j := 14) (s := 39) (b := true) rfl (by kernel_rfl) r39)]
                 exact hK _ _ rfl trivial (hS))
          · intro L vs A' u hW hL0 hnd K' hK
            have hS := hW.wi.s
            have r7 : A'.tmps[7]? = some (iv k) := (hW.out 7 (fun j hj => fr_R j 7 hj (by kernel_rfl))).trans rfl
            have r39 : A'.tmps[39]? = some (gv (!a) (.bool b)) := by
              obtain ⟨x, e, h⟩ := hW.tel 14 39 (by decide) (hnd 14 (by kernel_rfl)) rfl
              rw [e]; exact congrArg some h
            cases a <;> cases b
            all_goals first | replace r39 := gv_yes r39 rfl | replace r39 := gv_no r39 rfl
            all_goals
              first
              | (rw [if_pos (wanted_yes (j := 14) (s := 39) (b := true) rfl (by kernel_rfl) r39)]
                 go_simp
                 exact hK _ _ (by first | rfl | (show _ = _; simp)) trivial (hS))
              | (rw [if_neg (wanted_no (j := 14) (s := 39) (b := true) rfl (by kernel_rfl) r39)]
                 exact hK _ _ rfl trivial (hS))
              | (rw [if_neg (wanted_no2 (j := 14) (s := 39) (b := true) rfl (by kernel_rfl) r39)]
                 exact hK _ _ rfl trivial (hS))
          · intro L vs A' u hW hL0 hnd K' hK
            have hS := hW.wi.s
            have r40 : A'.tmps[40]? = some (gv (!a && b) (.slice (some ad) l.length cc)) := by
              obtain ⟨x, e, h⟩ := hW.tel 15 40 (by decide) (hnd 15 (by kernel_rfl)) rfl
              rw [e]; exact congrArg some h
            have r41 : A'.tmps[41]? = some (gv (!a && b) (iv k)) := by
              obtain ⟨x, e, h⟩ := hW.tel 16 41 (by decide) (hnd 16 (by kernel_rfl)) rfl
              rw [e]; exact congrArg some h
            have r39 : A'.tmps[39]? = some (gv (!a) (.bool b)) := by
              obtain ⟨x, e, h⟩ := hW.tel 14 39 (by decide) (hnd 14 (by kernel_rfl)) rfl
              rw [e]; exact congrArg some h
            cases a <;> cases b
            all_goals first | replace r40 := gv_yes r40 rfl | replace r40 := gv_no r40 rfl
            all_goals first | replace r41 := gv_yes r41 rfl | replace r41 := gv_no r41 rfl
            all_goals first | replace r39 := gv_yes r39 rfl | replace r39 := gv_no r39 rfl
            all_goals
              first
              | (rw [if_pos (wanted_yes (j := 14) (s := 39) (b := true) rfl (by kernel_rfl) r39)]
                 go_simp
                 exact hK _ _ (by first | rfl | (show _ = _; simp)) trivial (hS))
              | (rw [if_neg (wanted_no (j := 14) (s := 39) (b := true) rfl (by kernel_rfl) r39)]
                 exact hK _ _ rfl trivial (hS))
              | (rw [if_neg (wanted_no2 (j := 14) (s := 39) (b := true) rfl (by kernel_rfl) r39)]
                 exact hK _ _ rfl trivial (hS))
          · intro L vs A' u hW hL0 hnd K' hK
            have hS := hW.wi.s
            have r42 : A'.tmps[42]? = some (gv (!a && b) (.pointer (some (ad.add (k * 2))))) := by
              obtain ⟨x, e, h⟩ := hW.tel 17 42 (by decide) (hnd 17 (by kernel_rfl)) rfl
              rw [e]; exact congrArg some h
            have r39 : A'.tmps[39]? = some (gv (!a) (.bool b)) := by
              obtain ⟨x, e, h⟩ := hW.tel 14 39 (by decide) (hnd 14 (by kernel_rfl)) rfl
              rw [e]; exact congrArg some h
            cases a <;> cases b
            all_goals first | replace r42 := gv_yes r42 rfl | replace r42 := gv_no r42 rfl
            all_goals first | replace r39 := gv_yes r39 rfl | replace r39 := gv_no r39 rfl
            all_goals
              first
              | (rw [if_pos (wanted_yes (j := 14) (s := 39) (b := true) rfl (by kernel_rfl) r39)]
                 go_simp
                 exact hK _ _ (by first | rfl | (show _ = _; simp)) trivial (hS))
              | (rw [if_neg (wanted_no (j := 14) (s := 39) (b := true) rfl (by kernel_rfl) r39)]
                 exact hK _ _ rfl trivial (hS))
              | (rw [if_neg (wanted_no2 (j := 14) (s := 39) (b := true) rfl (by kernel_rfl) r39)]
                 exact hK _ _ rfl trivial (hS))
          · intro L vs A' u hW hL0 hnd K' hK
            have hS := hW.wi.s
            have r43 : A'.tmps[43]? = some (gv (!a && b) (.pointer (some (ad.add (k * 2))))) := by
              obtain ⟨x, e, h⟩ := hW.tel 18 43 (by decide) (hnd 18 (by kernel_rfl)) rfl
              rw [e]; exact congrArg some h
            have r39 : A'.tmps[39]? = some (gv (!a) (.bool b)) := by
              obtain ⟨x, e, h⟩ := hW.tel 14 39 (by decide) (hnd 14 (by kernel_rfl)) rfl
              rw [e]; exact congrArg some h
            cases a <;> cases b
            all_goals first | replace r43 := gv_yes r43 rfl | replace r43 := gv_no r43 rfl
            all_goals first | replace r39 := gv_yes r39 rfl | replace r39 := gv_no r39 rfl
            all_goals
              first
              | (rw [if_pos (wanted_yes (j := 14) (s := 39) (b := true) rfl (by kernel_rfl) r39)]
                 have hc := cell_keep hS HX.out
                 go_simp
                 exact hK _ _ (by first | rfl | (show _ = _; simp)) trivial (hS))
              | (rw [if_neg (wanted_no (j := 14) (s := 39) (b := true) rfl (by kernel_rfl) r39)]
                 exact hK _ _ rfl trivial (hS))
              | (rw [if_neg (wanted_no2 (j := 14) (s := 39) (b := true) rfl (by kernel_rfl) r39)]
                 exact hK _ _ rfl trivial (hS))
          · intro L vs A' u hW hL0 hnd K' hK
            have hS := hW.wi.s
            have r2 : A'.tmps[2]? = some (.pointer (some ⟨w.heap.size, 0, none⟩)) := (hW.out 2 (fun j hj => fr_R j 2 hj (by kernel_rfl))).trans rfl
            have r39 : A'.tmps[39]? = some (gv (!a) (.bool b)) := by
              obtain ⟨x, e, h⟩ := hW.tel 14 39 (by decide) (hnd 14 (by kernel_rfl)) rfl
              rw [e]; exact congrArg some h
            cases a <;> cases b
            all_goals first | replace r39 := gv_yes r39 rfl | replace r39 := gv_no r39 rfl
            all_goals
              first
              | (rw [if_pos (wanted_yes (j := 14) (s := 39) (b := true) rfl (by kernel_rfl) r39)]
                 go_simp
                 exact hK _ _ (by first | rfl | (show _ = _; simp)) trivial (hS))
              | (rw [if_neg (wanted_no (j := 14) (s := 39) (b := true) rfl (by kernel_rfl) r39)]
                 exact hK _ _ rfl trivial (hS))
              | (rw [if_neg (wanted_no2 (j := 14) (s := 39) (b := true) rfl (by kernel_rfl) r39)]
                 exact hK _ _ rfl trivial (hS))
          · intro L vs A' u hW hL0 hnd K' hK
            have hS := hW.wi.s
            have r45 : A'.tmps[45]? = some (gv (!a && b) (.pointer (some ⟨w.heap.size, 3, none⟩))) := by
              obtain ⟨x, e, h⟩ := hW.tel 20 45 (by decide) (hnd 20 (by kernel_rfl)) rfl
              rw [e]; exact congrArg some h
            have r39 : A'.tmps[39]? = some (gv (!a) (.bool b)) := by
              obtain ⟨x, e, h⟩ := hW.tel 14 39 (by decide) (hnd 14 (by kernel_rfl)) rfl
              rw [e]; exact congrArg some h
            cases a <;> cases b
            all_goals first | replace r45 := gv_yes r45 rfl | replace r45 := gv_no r45 rfl
            all_goals first | replace r39 := gv_yes r39 rfl | replace r39 := gv_no r39 rfl
            all_goals
              first
              | (rw [if_pos (wanted_yes (j := 14) (s := 39) (b := true) rfl (by kernel_rfl) r39)]
                 have hc := cell_keep hS (cell_keep HOr.out Q3.out)
                 go_simp
                 exact hK _ _ (by first | rfl | (show _ = _; simp)) trivial (hS))
              | (rw [if_neg (wanted_no (j := 14) (s := 39) (b := true) rfl (by kernel_rfl) r39)]
                 exact hK _ _ rfl trivial (hS))
              | (rw [if_neg (wanted_no2 (j := 14) (s := 39) (b := true) rfl (by kernel_rfl) r39)]
                 exact hK _ _ rfl trivial (hS))
          · intro L vs A' u hW hL0 hnd K' hK
            have hS := hW.wi.s
            have r44 : A'.tmps[44]? = some (gv (!a && b) (iv p.1)) := by
              obtain ⟨x, e, h⟩ := hW.tel 19 44 (by decide) (hnd 19 (by kernel_rfl)) rfl
              rw [e]; exact congrArg some h
            have r46 : A'.tmps[46]? = some (gv (!a && b) (iv i.mb)) := by
              obtain ⟨x, e, h⟩ := hW.tel 21 46 (by decide) (hnd 21 (by kernel_rfl)) rfl
              rw [e]; exact congrArg some h
            have r39 : A'.tmps[39]? = some (gv (!a) (.bool b)) := by
              obtain ⟨x, e, h⟩ := hW.tel 14 39 (by decide) (hnd 14 (by kernel_rfl)) rfl
              rw [e]; exact congrArg some h
            cases a <;> cases b
            all_goals first | replace r44 := gv_yes r44 rfl | replace r44 := gv_no r44 rfl
            all_goals first | replace r46 := gv_yes r46 rfl | replace r46 := gv_no r46 rfl
            all_goals first | replace r39 := gv_yes r39 rfl | replace r39 := gv_no r39 rfl
            all_goals
              first
              | (rw [if_pos (wanted_yes (j := 14) (s := 39) (b := true) rfl (by kernel_rfl) r39)]
                 go_simp
                 exact hK _ _ (by first | rfl | exact congrArg Value.bool Hc.out | (refine congrArg Value.bool (Eq.trans ?_ Hc.out); rw [decide_eq_decide]; omega)) trivial (hS))
              | (rw [if_neg (wanted_no (j := 14) (s := 39) (b := true) rfl (by kernel_rfl) r39)]
                 exact hK _ _ rfl trivial (hS))
              | (rw [if_neg (wanted_no2 (j := 14) (s := 39) (b := true) rfl (by kernel_rfl) r39)]
                 exact hK _ _ rfl trivial (hS))
          · intro L vs A' u hW hL0 hnd K' hK
            have hS := hW.wi.s
            have r39 : A'.tmps[39]? = some (gv (!a) (.bool b)) := by
              obtain ⟨x, e, h⟩ := hW.tel 14 39 (by decide) (hnd 14 (by kernel_rfl)) rfl
              rw [e]; exact congrArg some h
            have r47 : A'.tmps[47]? = some (gv (!a && b) (.bool c)) := by
              obtain ⟨x, e, h⟩ := hW.tel 22 47 (by decide) (hnd 22 (by kernel_rfl)) rfl
              rw [e]; exact congrArg some h
            have r33 : A'.tmps[33]? = some (.bool a) := by
              obtain ⟨x, e, h⟩ := hW.tel 8 33 (by decide) (hnd 8 (by kernel_rfl)) rfl
              rw [e]; exact congrArg some h
            cases a <;> cases b
            all_goals first | replace r39 := gv_yes r39 rfl | replace r39 := gv_no r39 rfl
            all_goals first | replace r47 := gv_yes r47 rfl | replace r47 := gv_no r47 rfl
            all_goals
              first
              | (rw [if_pos (wanted_yes (j := 8) (s := 33) (b := false) rfl (by kernel_rfl) r33)]
                 go_simp
                 exact hK _ _ (by first | rfl | (show _ = _; simp)) trivial (hS))
              | (rw [if_neg (wanted_no (j := 8) (s := 33) (b := false) rfl (by kernel_rfl) r33)]
                 exact hK _ _ rfl trivial (hS))
              | (rw [if_neg (wanted_no2 (j := 8) (s := 33) (b := false) rfl (by kernel_rfl) r33)]
                 exact hK _ _ rfl trivial (hS))
          · intro L vs A' u hW hL0 hnd K' hK
            have hS := hW.wi.s
            have r33 : A'.tmps[33]? = some (.bool a) := by
              obtain ⟨x, e, h⟩ := hW.tel 8 33 (by decide) (hnd 8 (by kernel_rfl)) rfl
              rw [e]; exact congrArg some h
            have r48 : A'.tmps[48]? = some (gv (!a) (.bool (b && c))) := by
              obtain ⟨x, e, h⟩ := hW.tel 23 48 (by decide) (hnd 23 (by kernel_rfl)) rfl
              rw [e]; exact congrArg some h
            cases a <;> cases b
            all_goals first | replace r48 := gv_yes r48 rfl | replace r48 := gv_no r48 rfl
            all_goals
              go_simp
              exact hK _ _ (by first | exact congrArg Value.bool Hg1.out | (refine congrArg Value.bool (Eq.trans ?_ Hg1.out); simp)) trivial (hS)
          · intro L vs A' u hW hL0 hnd K' hK
            have hS := hW.wi.s
            have r49 : A'.tmps[49]? = some (.bool g1) := by
              obtain ⟨x, e, h⟩ := hW.tel 24 49 (by decide) (hnd 24 (by kernel_rfl)) rfl
              rw [e]; exact congrArg some h
            go_simp
            exact hK _ _ (by first | rfl | (show _ = _; simp)) trivial (hS)
          · intro L vs A' u hW hL0 hnd K' hK
            have hS := hW.wi.s
            have r2 : A'.tmps[2]? = some (.pointer (some ⟨w.heap.size, 0, none⟩)) := (hW.out 2 (fun j hj => fr_R j 2 hj (by kernel_rfl))).trans rfl
            have r50 : A'.tmps[50]? = some (.bool g1) := by
              obtain ⟨x, e, h⟩ := hW.tel 25 50 (by decide) (hnd 25 (by kernel_rfl)) rfl
              rw [e]; exact congrArg some h
            cases g1
            all_goals
              first
              | (rw [if_pos (wanted_yes (j := 25) (s := 50) (b := false) rfl (by kernel_rfl) r50)]
                 go_simp
                 exact hK _ _ (by first | rfl | (show _ = _; simp)) trivial (hS))
              | (rw [if_neg (wanted_no (j := 25) (s := 50) (b := false) rfl (by kernel_rfl) r50)]
                 exact hK _ _ rfl trivial (hS))
              | (rw [if_neg (wanted_no2 (j := 25) (s := 50) (b := false) rfl (by kernel_rfl) r50)]
                 exact hK _ _ rfl trivial (hS))
          · intro L vs A' u hW hL0 hnd K' hK
            have hS := hW.wi.s
            have r51 : A'.tmps[51]? = some (gv (!g1) (.pointer (some ⟨w.heap.size, 5, none⟩))) := by
              obtain ⟨x, e, h⟩ := hW.tel 26 51 (by decide) (hnd 26 (by kernel_rfl)) rfl
              rw [e]; exact congrArg some h
            have r50 : A'.tmps[50]? = some (.bool g1) := by
              obtain ⟨x, e, h⟩ := hW.tel 25 50 (by decide) (hnd 25 (by kernel_rfl)) rfl
              rw [e]; exact congrArg some h
            cases g1
            all_goals first | replace r51 := gv_yes r51 rfl | replace r51 := gv_no r51 rfl
            all_goals
              first
              | (rw [if_pos (wanted_yes (j := 25) (s := 50) (b := false) rfl (by kernel_rfl) r50)]
                 have hc := cell_keep hS (cell_keep HOr.out Q5.out)
                 go_simp
                 exact hK _ _ (by first | rfl | (show _ = _; simp)) trivial (hS))
              | (rw [if_neg (wanted_no (j := 25) (s := 50) (b := false) rfl (by kernel_rfl) r50)]
                 exact hK _ _ rfl trivial (hS))
              | (rw [if_neg (wanted_no2 (j := 25) (s := 50) (b := false) rfl (by kernel_rfl) r50)]
                 exact hK _ _ rfl trivial (hS))
          · intro L vs A' u hW hL0 hnd K' hK
            have hS := hW.wi.s
            have r52 : A'.tmps[52]? = some (gv (!g1) (iv i.mf)) := by
              obtain ⟨x, e, h⟩ := hW.tel 27 52 (by decide) (hnd 27 (by kernel_rfl)) rfl
              rw [e]; exact congrArg some h
            have r50 : A'.tmps[50]? = some (.bool g1) := by
              obtain ⟨x, e, h⟩ := hW.tel 25 50 (by decide) (hnd 25 (by kernel_rfl)) rfl
              rw [e]; exact congrArg some h
            cases g1
            all_goals first | replace r52 := gv_yes r52 rfl | replace r52 := gv_no r52 rfl
            all_goals
              first
              | (rw [if_pos (wanted_yes (j := 25) (s := 50) (b := false) rfl (by kernel_rfl) r50)]
                 go_simp
                 exact hK _ _ (by first | rfl | exact congrArg Value.bool Hd.out | (refine congrArg Value.bool (Eq.trans ?_ Hd.out); rw [decide_eq_decide]; omega)) trivial (hS))
              | (rw [if_neg (wanted_no (j := 25) (s := 50) (b := false) rfl (by kernel_rfl) r50)]
                 exact hK _ _ rfl trivial (hS))
              | (rw [if_neg (wanted_no2 (j := 25) (s := 50) (b := false) rfl (by kernel_rfl) r50)]
                 exact hK _ _ rfl trivial (hS))
          · intro L vs A' u hW hL0 hnd K' hK
            have hS := hW.wi.s
            have r53 : A'.tmps[53]? = some (gv (!g1) (.bool d)) := by
              obtain ⟨x, e, h⟩ := hW.tel 28 53 (by decide) (hnd 28 (by kernel_rfl)) rfl
              rw [e]; exact congrArg some h
            have r50 : A'.tmps[50]? = some (.bool g1) := by
              obtain ⟨x, e, h⟩ := hW.tel 25 50 (by decide) (hnd 25 (by kernel_rfl)) rfl
              rw [e]; exact congrArg some h
            cases g1
            all_goals first | replace r53 := gv_yes r53 rfl | replace r53 := gv_no r53 rfl
            all_goals
              first
              | (rw [if_pos (wanted_yes (j := 25) (s := 50) (b := false) rfl (by kernel_rfl) r50)]
                 go_simp
                 exact hK _ _ (by first | rfl | (show _ = _; simp)) trivial (hS))
              | (rw [if_neg (wanted_no (j := 25) (s := 50) (b := false) rfl (by kernel_rfl) r50)]
                 exact hK _ _ rfl trivial (hS))
              | (rw [if_neg (wanted_no2 (j := 25) (s := 50) (b := false) rfl (by kernel_rfl) r50)]
                 exact hK _ _ rfl trivial (hS))
          · intro L vs A' u hW hL0 hnd K' hK
            have hS := hW.wi.s
            have r1 : A'.tmps[1]? = some (.slice (some ad) l.length cc) := (hW.out 1 (fun j hj => fr_R j 1 hj (by kernel_rfl))).trans rfl
            have r54 : A'.tmps[54]? = some (gv (!g1) (.bool d)) := by
              obtain ⟨x, e, h⟩ := hW.tel 29 54 (by decide) (hnd 29 (by kernel_rfl)) rfl
              rw [e]; exact congrArg some h
            cases g1 <;> cases d
            all_goals first | replace r54 := gv_yes r54 rfl | replace r54 := gv_no r54 rfl
            all_goals
              first
              | (rw [if_pos (wanted_yes (j := 29) (s := 54) (b := true) rfl (by kernel_rfl) r54)]
                 go_simp
                 exact hK _ _ (by first | rfl | (show _ = _; simp)) trivial (hS))
              | (rw [if_neg (wanted_no (j := 29) (s := 54) (b := true) rfl (by kernel_rfl) r54)]
                 exact hK _ _ rfl trivial (hS))
              | (rw [if_neg (wanted_no2 (j := 29) (s := 54) (b := true) rfl (by kernel_rfl) r54)]
                 exact hK _ _ rfl trivial (hS))
          · intro L vs A' u hW hL0 hnd K' hK
            have hS := hW.wi.s
            have r7 : A'.tmps[7]? = some (iv k) := (hW.out 7 (fun j hj => fr_R j 7 hj (by kernel_rfl))).trans rfl
            have r54 : A'.tmps[54]? = some (gv (!g1) (.bool d)) := by
              obtain ⟨x, e, h⟩ := hW.tel 29 54 (by decide) (hnd 29 (by kernel_rfl)) rfl
              rw [e]; exact congrArg some h
            cases g1 <;> cases d
            all_goals first | replace r54 := gv_yes r54 rfl | replace r54 := gv_no r54 rfl
            all_goals
              first
              | (rw [if_pos (wanted_yes (j := 29) (s := 54) (b := true) rfl (by kernel_rfl) r54)]
                 go_simp
                 exact hK _ _ (by first | rfl | (show _ = _; simp)) trivial (hS))
              | (rw [if_neg (wanted_no (j := 29) (s := 54) (b := true) rfl (by kernel_rfl) r54)]
                 exact hK _ _ rfl trivial (hS))
              | (rw [if_neg (wanted_no2 (j := 29) (s := 54) (b := true) rfl (by kernel_rfl) r54)]
                 exact hK _ _ rfl trivial (hS))
          · intro L vs A' u hW hL0 hnd K' hK
            have hS := hW.wi.s
            have r55 : A'.tmps[55]? = some (gv (!g1 && d) (.slice (some ad) l.length cc)) := by
              obtain ⟨x, e, h⟩ := hW.tel 30 55 (by decide) (hnd 30 (by kernel_rfl)) rfl
              rw [e]; exact congrArg some h
            have r56 : A'.tmps[56]? = some (gv (!g1 && d) (iv k)) := by
              obtain ⟨x, e, h⟩ := hW.tel 31 56 (by decide) (hnd 31 (by kernel_rfl)) rfl
              rw [e]; exact congrArg some h
            have r54 : A'.tmps[54]? = some (gv (!g1) (.bool d)) := by
              obtain ⟨x, e, h⟩ := hW.tel 29 54 (by decide) (hnd 29 (by kernel_rfl)) rfl
              rw [e]; exact congrArg some h
            cases g1 <;> cases d
            all_goals first | replace r55 := gv_yes r55 rfl | replace r55 := gv_no r55 rfl
            all_goals first | replace r56 := gv_yes r56 rfl | replace r56 := gv_no r56 rfl
            all_goals first | replace r54 := gv_yes r54 rfl | replace r54 := gv_no r54 rfl
            all_goals
              first
              | (rw [if_pos (wanted_yes (j := 29) (s := 54) (b := true) rfl (by kernel_rfl) r54)]
                 go_simp
                 exact hK _ _ (by first | rfl | (show _ = _; simp)) trivial (hS))
              | (rw [if_neg (wanted_no (j := 29) (s := 54) (b := true) rfl (by kernel_rfl) r54)]
                 exact hK _ _ rfl trivial (hS))
              | (rw [if_neg (wanted_no2 (j := 29) (s := 54) (b := true) rfl (by kernel_rfl) r54)]
                 exact hK _ _ rfl trivial (hS))
          · intro L vs A' u hW hL0 hnd K' hK
            have hS := hW.wi.s
            have r57 : A'.tmps[57]? = some (gv (!g1 && d) (.pointer (some (ad.add (k * 2))))) := by
              obtain ⟨x, e, h⟩ := hW.tel 32 57 (by decide) (hnd 32 (by kernel_rfl)) rfl
              rw [e]; exact congrArg some h
            have r54 : A'.tmps[54]? = some (gv (!g1) (.bool d)) := by
              obtain ⟨x, e, h⟩ := hW.tel 29 54 (by decide) (hnd 29 (by kernel_rfl)) rfl
              rw [e]; exact congrArg some h
            cases g1 <;> cases d
            all_goals first | replace r57 := gv_yes r57 rfl | replace r57 := gv_no r57 rfl
            all_goals first | replace r54 := gv_yes r54 rfl | replace r54 := gv_no r54 rfl
            all_goals
              first
              | (rw [if_pos (wanted_yes (j := 29) (s := 54) (b := true) rfl (by kernel_rfl) r54)]
                 go_simp
                 exact hK _ _ (by first | rfl | (show _ = _; simp)) trivial (hS))
              | (rw [if_neg (wanted_no (j := 29) (s := 54) (b := true) rfl (by kernel_rfl) r54)]
                 exact hK _ _ rfl trivial (hS))
              | (rw [if_neg (wanted_no2 (j := 29) (s := 54) (b := true) rfl (by kernel_rfl) r54)]
                 exact hK _ _ rfl trivial (hS))
          · intro L vs A' u hW hL0 hnd K' hK
            have hS := hW.wi.s
            have r58 : A'.tmps[58]? = some (gv (!g1 && d) (.pointer (some ⟨(ad.add (k * 2)).block, (ad.add (k * 2)).off + 1, none⟩))) := by
              obtain ⟨x, e, h⟩ := hW.tel 33 58 (by decide) (hnd 33 (by kernel_rfl)) rfl
              rw [e]; exact congrArg some h
            have r54 : A'.tmps[54]? = some (gv (!g1) (.bool d)) := by
              obtain ⟨x, e, h⟩ := hW.tel 29 54 (by decide) (hnd 29 (by kernel_rfl)) rfl
              rw [e]; exact congrArg some h
            cases g1 <;> cases d
            all_goals first | replace r58 := gv_yes r58 rfl | replace r58 := gv_no r58 rfl
            all_goals first | replace r54 := gv_yes r54 rfl | replace r54 := gv_no r54 rfl
            all_goals
              first
              | (rw [if_pos (wanted_yes (j := 29) (s := 54) (b := true) rfl (by kernel_rfl) r54)]
                 have hc := cell_keep hS HY.out
                 go_simp
                 exact hK _ _ (by first | rfl | (show _ = _; simp)) trivial (hS))
              | (rw [if_neg (wanted_no (j := 29) (s := 54) (b := true) rfl (by kernel_rfl) r54)]
                 exact hK _ _ rfl trivial (hS))
              | (rw [if_neg (wanted_no2 (j := 29) (s := 54) (b := true) rfl (by kernel_rfl) r54)]
                 exact hK _ _ rfl trivial (hS))
          · intro L vs A' u hW hL0 hnd K' hK
            have hS := hW.wi.s
            have r2 : A'.tmps[2]? = some (.pointer (some ⟨w.heap.size, 0, none⟩)) := (hW.out 2 (fun j hj => fr_R j 2 hj (by kernel_rfl))).trans rfl
            have r54 : A'.tmps[54]? = some (gv (!g1) (.bool d)) := by
              obtain ⟨x, e, h⟩ := hW.tel 29 54 (by decide) (hnd 29 (by kernel_rfl)) rfl
              rw [e]; exact congrArg some h
            cases g1 <;> cases d
            all_goals first | replace r54 := gv_yes r54 rfl | replace r54 := gv_no r54 rfl
            all_goals
              first
              | (rw [if_pos (wanted_yes (j := 29) (s := 54) (b := true) rfl (by kernel_rfl) r54)]
                 go_simp
                 exact hK _ _ (by first | rfl | (show _ = _; simp)) trivial (hS))
              | (rw [if_neg (wanted_no (j := 29) (s := 54) (b := true) rfl (by kernel_rfl) r54)]
                 exact hK _ _ rfl trivial (hS))
              | (rw [if_neg (wanted_no2 (j := 29) (s := 54) (b := true) rfl (by kernel_rfl) r54)]
                 exact hK _ _ rfl trivial (hS))
          · intro L vs A' u hW hL0 hnd K' hK
            have hS := hW.wi.s
            have r60 : A'.tmps[60]? = some (gv (!g1 && d) (.pointer (some ⟨w.heap.size, 5, none⟩))) := by
              obtain ⟨x, e, h⟩ := hW.tel 35 60 (by decide) (hnd 35 (by kernel_rfl)) rfl
              rw [e]; exact congrArg some h
            have r54 : A'.tmps[54]? = some (gv (!g1) (.bool d)) := by
              obtain ⟨x, e, h⟩ := hW.tel 29 54 (by decide) (hnd 29 (by kernel_rfl)) rfl
              rw [e]; exact congrArg some h
            cases g1 <;> cases d
            all_goals first | replace r60 := gv_yes r60 rfl | replace r60 := gv_no r60 rfl
            all_goals first | replace r54 := gv_yes r54 rfl | replace r54 := gv_no r54 rfl
            all_goals
              first
              | (rw [if_pos (wanted_yes (j := 29) (s := 54) (b := true) rfl (by kernel_rfl) r54)]
                 have hc := cell_keep hS (cell_keep HOr.out Q5.out)
                 go_simp
                 exact hK _ _ (by first | rfl | (show _ = _; simp)) trivial (hS))
              | (rw [if_neg (wanted_no (j := 29) (s := 54) (b := true) rfl (by kernel_rfl) r54)]
                 exact hK _ _ rfl trivial (hS))
              | (rw [if_neg (wanted_no2 (j := 29) (s := 54) (b := true) rfl (by kernel_rfl) r54)]
                 exact hK _ _ rfl trivial (hS))
          · intro L vs A' u hW hL0 hnd K' hK
            have hS := hW.wi.s
            have r59 : A'.tmps[59]? = some (gv (!g1 && d) (iv p.2)) := by
              obtain ⟨x, e, h⟩ := hW.tel 34 59 (by decide) (hnd 34 (by kernel_rfl)) rfl
              rw [e]; exact congrArg some h
            have r61 : A'.tmps[61]? = some (gv (!g1 && d) (iv i.mf)) := by
              obtain ⟨x, e, h⟩ := hW.tel 36 61 (by decide) (hnd 36 (by kernel_rfl)) rfl
              rw [e]; exact congrArg some h
            have r54 : A'.tmps[54]? = some (gv (!g1) (.bool d)) := by
              obtain ⟨x, e, h⟩ := hW.tel 29 54 (by decide) (hnd 29 (by kernel_rfl)) rfl
              rw [e]; exact congrArg some h
            cases g1 <;> cases d
            all_goals first | replace r59 := gv_yes r59 rfl | replace r59 := gv_no r59 rfl
            all_goals first | replace r61 := gv_yes r61 rfl | replace r61 := gv_no r61 rfl
            all_goals first | replace r54 := gv_yes r54 rfl | replace r54 := gv_no r54 rfl
            all_goals
              first
              | (rw [if_pos (wanted_yes (j := 29) (s := 54) (b := true) rfl (by kernel_rfl) r54)]
                 go_simp
                 exact hK _ _ (by first | rfl | exact congrArg Value.bool He.out | (refine congrArg Value.bool (Eq.trans ?_ He.out); rw [decide_eq_decide]; omega)) trivial (hS))
              | (rw [if_neg (wanted_no (j := 29) (s := 54) (b := true) rfl (by kernel_rfl) r54)]
                 exact hK _ _ rfl trivial (hS))
              | (rw [if_neg (wanted_no2 (j := 29) (s := 54) (b := true) rfl (by kernel_rfl) r54)]
                 exact hK _ _ rfl trivial (hS))
          · intro L vs A' u hW hL0 hnd K' hK
            have hS := hW.wi.s
            have r54 : A'.tmps[54]? = some (gv (!g1) (.bool d)) := by
              obtain ⟨x, e, h⟩ := hW.tel 29 54 (by decide) (hnd 29 (by kernel_rfl)) rfl
              rw [e]; exact congrArg some h
            have r62 : A'.tmps[62]? = some (gv (!g1 && d) (.bool e)) := by
              obtain ⟨x, e, h⟩ := hW.tel 37 62 (by decide) (hnd 37 (by kernel_rfl)) rfl
              rw [e]; exact congrArg some h
            have r50 : A'.tmps[50]? = some (.bool g1) := by
              obtain ⟨x, e, h⟩ := hW.tel 25 50 (by decide) (hnd 25 (by kernel_rfl)) rfl
              rw [e]; exact congrArg some h
            cases g1 <;> cases d
            all_goals first | replace r54 := gv_yes r54 rfl | replace r54 := gv_no r54 rfl
            all_goals first | replace r62 := gv_yes r62 rfl | replace r62 := gv_no r62 rfl
            all_goals
              first
              | (rw [if_pos (wanted_yes (j := 25) (s := 50) (b := false) rfl (by kernel_rfl) r50)]
                 go_simp
                 exact hK _ _ (by first | rfl | (show _ = _; simp)) trivial (hS))
              | (rw [if_neg (wanted_no (j := 25) (s := 50) (b := false) rfl (by kernel_rfl) r50)]
                 exact hK _ _ rfl trivial (hS))
              | (rw [if_neg (wanted_no2 (j := 25) (s := 50) (b := false) rfl (by kernel_rfl) r50)]
                 exact hK _ _ rfl trivial (hS))
          · intro L vs A' u hW hL0 hnd K' hK
            have hS := hW.wi.s
            have r50 : A'.tmps[50]? = some (.bool g1) := by
              obtain ⟨x, e, h⟩ := hW.tel 25 50 (by decide) (hnd 25 (by kernel_rfl)) rfl
              rw [e]; exact congrArg some h
            have r63 : A'.tmps[63]? = some (gv (!g1) (.bool (d && e))) := by
              obtain ⟨x, e, h⟩ := hW.tel 38 63 (by decide) (hnd 38 (by kernel_rfl)) rfl
              rw [e]; exact congrArg some h
            cases g1 <;> cases d
            all_goals first | replace r63 := gv_yes r63 rfl | replace r63 := gv_no r63 rfl
            all_goals
              go_simp
              exact hK _ _ (by first | exact congrArg Value.bool Hg2.out | (refine congrArg Value.bool (Eq.trans ?_ Hg2.out); simp)) trivial (hS)
          · intro L vs A' u hW hL0 hnd K' hK
            have hS := hW.wi.s
            have r64 : A'.tmps[64]? = some (.bool g2) := by
              obtain ⟨x, e, h⟩ := hW.tel 39 64 (by decide) (hnd 39 (by kernel_rfl)) rfl
              rw [e]; exact congrArg some h
            go_simp
            exact hK _ _ (by first | rfl | (show _ = _; simp)) trivial (hS)
          · intro L vs A' u hW hL0 hnd K' hK
            have hS := hW.wi.s
            have r2 : A'.tmps[2]? = some (.pointer (some ⟨w.heap.size, 0, none⟩)) := (hW.out 2 (fun j hj => fr_R j 2 hj (by kernel_rfl))).trans rfl
            have r65 : A'.tmps[65]? = some (.bool g2) := by
              obtain ⟨x, e, h⟩ := hW.tel 40 65 (by decide) (hnd 40 (by kernel_rfl)) rfl
              rw [e]; exact congrArg some h
            cases g2
            all_goals
              first
              | (rw [if_pos (wanted_yes (j := 40) (s := 65) (b := false) rfl (by kernel_rfl) r65)]
                 go_simp
                 exact hK _ _ (by first | rfl | (show _ = _; simp)) trivial (hS))
              | (rw [if_neg (wanted_no (j := 40) (s := 65) (b := false) rfl (by kernel_rfl) r65)]
                 exact hK _ _ rfl trivial (hS))
              | (rw [if_neg (wanted_no2 (j := 40) (s := 65) (b := false) rfl (by kernel_rfl) r65)]
                 exact hK _ _ rfl trivial (hS))
          · intro L vs A' u hW hL0 hnd K' hK
            have hS := hW.wi.s
            have r66 : A'.tmps[66]? = some (gv (!g2) (.pointer (some ⟨w.heap.size, 6, none⟩))) := by
              obtain ⟨x, e, h⟩ := hW.tel 41 66 (by decide) (hnd 41 (by kernel_rfl)) rfl
              rw [e]; exact congrArg some h
            have r65 : A'.tmps[65]? = some (.bool g2) := by
              obtain ⟨x, e, h⟩ := hW.tel 40 65 (by decide) (hnd 40 (by kernel_rfl)) rfl
              rw [e]; exact congrArg some h
            cases g2
            all_goals first | replace r66 := gv_yes r66 rfl | replace r66 := gv_no r66 rfl
            all_goals
              first
              | (rw [if_pos (wanted_yes (j := 40) (s := 65) (b := false) rfl (by kernel_rfl) r65)]
                 have hc := cell_keep hS (cell_keep HOr.out Q6.out)
                 go_simp
                 exact hK _ _ (by first | rfl | (show _ = _; simp)) trivial (hS))
              | (rw [if_neg (wanted_no (j := 40) (s := 65) (b := false) rfl (by kernel_rfl) r65)]
                 exact hK _ _ rfl trivial (hS))
              | (rw [if_neg (wanted_no2 (j := 40) (s := 65) (b := false) rfl (by kernel_rfl) r65)]
                 exact hK _ _ rfl trivial (hS))
          · intro L vs A' u hW hL0 hnd K' hK
            have hS := hW.wi.s
            have r67 : A'.tmps[67]? = some (gv (!g2) (iv i.xf)) := by
              obtain ⟨x, e, h⟩ := hW.tel 42 67 (by decide) (hnd 42 (by kernel_rfl)) rfl
              rw [e]; exact congrArg some h
            have r65 : A'.tmps[65]? = some (.bool g2) := by
              obtain ⟨x, e, h⟩ := hW.tel 40 65 (by decide) (hnd 40 (by kernel_rfl)) rfl
              rw [e]; exact congrArg some h
            cases g2
            all_goals first | replace r67 := gv_yes r67 rfl | replace r67 := gv_no r67 rfl
            all_goals
              first
              | (rw [if_pos (wanted_yes (j := 40) (s := 65) (b := false) rfl (by kernel_rfl) r65)]
                 go_simp
                 exact hK _ _ (by first | rfl | exact congrArg Value.bool Hf.out | (refine congrArg Value.bool (Eq.trans ?_ Hf.out); rw [decide_eq_decide]; omega)) trivial (hS))
              | (rw [if_neg (wanted_no (j := 40) (s := 65) (b := false) rfl (by kernel_rfl) r65)]
                 exact hK _ _ rfl trivial (hS))
              | (rw [if_neg (wanted_no2 (j := 40) (s := 65) (b := false) rfl (by kernel_rfl) r65)]
                 exact hK _ _ rfl trivial (hS))
          · intro L vs A' u hW hL0 hnd K' hK
            have hS := hW.wi.s
            have r68 : A'.tmps[68]? = some (gv (!g2) (.bool f)) := by
              obtain ⟨x, e, h⟩ := hW.tel 43 68 (by decide) (hnd 43 (by kernel_rfl)) rfl
              rw [e]; exact congrArg some h
            have r65 : A'.tmps[65]? = some (.bool g2) := by
              obtain ⟨x, e, h⟩ := hW.tel 40 65 (by decide) (hnd 40 (by kernel_rfl)) rfl
              rw [e]; exact congrArg some h
            cases g2
            all_goals first | replace r68 := gv_yes r68 rfl | replace r68 := gv_no r68 rfl
            all_goals
              first
              | (rw [if_pos (wanted_yes (j := 40) (s := 65) (b := false) rfl (by kernel_rfl) r65)]
                 go_simp
                 exact hK _ _ (by first | rfl | (show _ = _; simp)) trivial (hS))
              | (rw [if_neg (wanted_no (j := 40) (s := 65) (b := false) rfl (by kernel_rfl) r65)]
                 exact hK _ _ rfl trivial (hS))
              | (rw [if_neg (wanted_no2 (j := 40) (s := 65) (b := false) rfl (by kernel_rfl) r65)]
                 exact hK _ _ rfl trivial (hS))
          · intro L vs A' u hW hL0 hnd K' hK
            have hS := hW.wi.s
            have r1 : A'.tmps[1]? = some (.slice (some ad) l.length cc) := (hW.out 1 (fun j hj => fr_R j 1 hj (by kernel_rfl))).trans rfl
            have r69 : A'.tmps[69]? = some (gv (!g2) (.bool f)) := by
              obtain ⟨x, e, h⟩ := hW.tel 44 69 (by decide) (hnd 44 (by kernel_rfl)) rfl
              rw [e]; exact congrArg some h
            cases g2 <;> cases f
            all_goals first | replace r69 := gv_yes r69 rfl | replace r69 := gv_no r69 rfl
            all_goals
              first
              | (rw [if_pos (wanted_yes (j := 44) (s := 69) (b := true) rfl (by kernel_rfl) r69)]
                 go_simp
                 exact hK _ _ (by first | rfl | (show _ = _; simp)) trivial (hS))
              | (rw [if_neg (wanted_no (j := 44) (s := 69) (b := true) rfl (by kernel_rfl) r69)]
                 exact hK _ _ rfl trivial (hS))
              | (rw [if_neg (wanted_no2 (j := 44) (s := 69) (b := true) rfl (by kernel_rfl) r69)]
                 exact hK _ _ rfl trivial (hS))
          · intro L vs A' u hW hL0 hnd K' hK
            have hS := hW.wi.s
            have r7 : A'.tmps[7]? = some (iv k) := (hW.out 7 (fun j hj => fr_R j 7 hj (by kernel_rfl))).trans rfl
            have r69 : A'.tmps[69]? = some (gv (!g2) (.bool f)) := by
              obtain ⟨x, e, h⟩ := hW.tel 44 69 (by decide) (hnd 44 (by kernel_rfl)) rfl
              rw [e]; exact congrArg some h
            cases g2 <;> cases f
            all_goals first | replace r69 := gv_yes r69 rfl | replace r69 := gv_no r69 rfl
            all_goals
              first
              | (rw [if_pos (wanted_yes (j := 44) (s := 69) (b := true) rfl (by kernel_rfl) r69)]
                 go_simp
                 exact hK _ _ (by first | rfl | (show _ = _; simp)) trivial (hS))
              | (rw [if_neg (wanted_no (j := 44) (s := 69) (b := true) rfl (by kernel_rfl) r69)]
                 exact hK _ _ rfl trivial (hS))
              | (rw [if_neg (wanted_no2 (j := 44) (s := 69) (b := true) rfl (by kernel_rfl) r69)]
                 exact hK _ _ rfl trivial (hS))
          · intro L vs A' u hW hL0 hnd K' hK
            have hS := hW.wi.s
            have r70 : A'.tmps[70]? = some (gv (!g2 && f) (.slice (some ad) l.length cc)) := by
              obtain ⟨x, e, h⟩ := hW.tel 45 70 (by decide) (hnd 45 (by kernel_rfl)) rfl
              rw [e]; exact congrArg some h
            have r71 : A'.tmps[71]? = some (gv (!g2 && f) (iv k)) := by
              obtain ⟨x, e, h⟩ := hW.tel 46 71 (by decide) (hnd 46 (by kernel_rfl)) rfl
              rw [e]; exact congrArg some h
            have r69 : A'.tmps[69]? = some (gv (!g2) (.bool f)) := by
              obtain ⟨x, e, h⟩ := hW.tel 44 69 (by decide) (hnd 44 (by kernel_rfl)) rfl
              rw [e]; exact congrArg some h
            cases g2 <;> cases f
            all_goals first | replace r70 := gv_yes r70 rfl | replace r70 := gv_no r70 rfl
            all_goals first | replace r71 := gv_yes r71 rfl | replace r71 := gv_no r71 rfl
            all_goals first | replace r69 := gv_yes r69 rfl | replace r69 := gv_no r69 rfl
            all_goals
              first
              | (rw [if_pos (wanted_yes (j := 44) (s := 69) (b := true) rfl (by kernel_rfl) r69)]
                 go_simp
                 exact hK _ _ (by first | rfl | (show _ = _; simp)) trivial (hS))
              | (rw [if_neg (wanted_no (j := 44) (s := 69) (b := true) rfl (by kernel_rfl) r69)]
                 exact hK _ _ rfl trivial (hS))
              | (rw [if_neg (wanted_no2 (j := 44) (s := 69) (b := true) rfl (by kernel_rfl) r69)]
                 exact hK _ _ rfl trivial (hS))
          · intro L vs A' u hW hL0 hnd K' hK
            have hS := hW.wi.s
            have r72 : A'.tmps[72]? = some (gv (!g2 && f) (.pointer (some (ad.add (k * 2))))) := by
              obtain ⟨x, e, h⟩ := hW.tel 47 72 (by decide) (hnd 47 (by kernel_rfl)) rfl
              rw [e]; exact congrArg some h
            have r69 : A'.tmps[69]? = some (gv (!g2) (.bool f)) := by
              obtain ⟨x, e, h⟩ := hW.tel 44 69 (by decide) (hnd 44 (by kernel_rfl)) rfl
              rw [e]; exact congrArg some h
            cases g2 <;> cases f
            all_goals first | replace r72 := gv_yes r72 rfl | replace r72 := gv_no r72 rfl
            all_goals first | replace r69 := gv_yes r69 rfl | replace r69 := gv_no r69 rfl
            all_goals
              first
              | (rw [if_pos (wanted_yes (j := 44) (s := 69) (b := true) rfl (by kernel_rfl) r69)]
                 go_simp
                 exact hK _ _ (by first | rfl | (show _ = _; simp)) trivial (hS))
              | (rw [if_neg (wanted_no (j := 44) (s := 69) (b := true) rfl (by kernel_rfl) r69)]
                 exact hK _ _ rfl trivial (hS))
              | (rw [if_neg (wanted_no2 (j := 44) (s := 69) (b := true) rfl (by kernel_rfl) r69)]
                 exact hK _ _ rfl trivial (hS))
          · intro L vs A' u hW hL0 hnd K' hK
            have hS := hW.wi.s
            have r73 : A'.tmps[73]? = some (gv (!g2 && f) (.pointer (some ⟨(ad.add (k * 2)).block, (ad.add (k * 2)).off + 1, none⟩))) := by
              obtain ⟨x, e, h⟩ := hW.tel 48 73 (by decide) (hnd 48 (by kernel_rfl)) rfl
              rw [e]; exact congrArg some h
            have r69 : A'.tmps[69]? = some (gv (!g2) (.bool f)) := by
              obtain ⟨x, e, h⟩ := hW.tel 44 69 (by decide) (hnd 44 (by kernel_rfl)) rfl
              rw [e]; exact congrArg some h
            cases g2 <;> cases f
            all_goals first | replace r73 := gv_yes r73 rfl | replace r73 := gv_no r73 rfl
            all_goals first | replace r69 := gv_yes r69 rfl | replace r69 := gv_no r69 rfl
            all_goals
              first
              | (rw [if_pos (wanted_yes (j := 44) (s := 69) (b := true) rfl (by kernel_rfl) r69)]
                 have hc := cell_keep hS HY.out
                 go_simp
                 exact hK _ _ (by first | rfl | (show _ = _; simp)) trivial (hS))
              | (rw [if_neg (wanted_no (j := 44) (s := 69) (b := true) rfl (by kernel_rfl) r69)]
                 exact hK _ _ rfl trivial (hS))
              | (rw [if_neg (wanted_no2 (j := 44) (s := 69) (b := true) rfl (by kernel_rfl) r69)]
                 exact hK _ _ rfl trivial (hS))
          · intro L vs A' u hW hL0 hnd K' hK
            have hS := hW.wi.s
            have r2 : A'.tmps[2]? = some (.pointer (some ⟨w.heap.size, 0, none⟩)) := (hW.out 2 (fun j hj => fr_R j 2 hj (by kernel_rfl))).trans rfl
            have r69 : A'.tmps[69]? = some (gv (!g2) (.bool f)) := by
              obtain ⟨x, e, h⟩ := hW.tel 44 69 (by decide) (hnd 44 (by kernel_rfl)) rfl
              rw [e]; exact congrArg some h
            cases g2 <;> cases f
            all_goals first | replace r69 := gv_yes r69 rfl | replace r69 := gv_no r69 rfl
            all_goals
              first
              | (rw [if_pos (wanted_yes (j := 44) (s := 69) (b := true) rfl (by kernel_rfl) r69)]
                 go_simp
                 exact hK _ _ (by first | rfl | (show _ = _; simp)) trivial (hS))
              | (rw [if_neg (wanted_no (j := 44) (s := 69) (b := true) rfl (by kernel_rfl) r69)]
                 exact hK _ _ rfl trivial (hS))
              | (rw [if_neg (wanted_no2 (j := 44) (s := 69) (b := true) rfl (by kernel_rfl) r69)]
                 exact hK _ _ rfl trivial (hS))
          · intro L vs A' u hW hL0 hnd K' hK
            have hS := hW.wi.s
            have r75 : A'.tmps[75]? = some (gv (!g2 && f) (.pointer (some ⟨w.heap.size, 6, none⟩))) := by
              obtain ⟨x, e, h⟩ := hW.tel 50 75 (by decide) (hnd 50 (by kernel_rfl)) rfl
              rw [e]; exact congrArg some h
            have r69 : A'.tmps[69]? = some (gv (!g2) (.bool f)) := by
              obtain ⟨x, e, h⟩ := hW.tel 44 69 (by decide) (hnd 44 (by kernel_rfl)) rfl
              rw [e]; exact congrArg some h
            cases g2 <;> cases f
            all_goals first | replace r75 := gv_yes r75 rfl | replace r75 := gv_no r75 rfl
            all_goals first | replace r69 := gv_yes r69 rfl | replace r69 := gv_no r69 rfl
            all_goals
              first
              | (rw [if_pos (wanted_yes (j := 44) (s := 69) (b := true) rfl (by kernel_rfl) r69)]
                 have hc := cell_keep hS (cell_keep HOr.out Q6.out)
                 go_simp
                 exact hK _ _ (by first | rfl | (show _ = _; simp)) trivial (hS))
              | (rw [if_neg (wanted_no (j := 44) (s := 69) (b := true) rfl (by kernel_rfl) r69)]
                 exact hK _ _ rfl trivial (hS))
              | (rw [if_neg (wanted_no2 (j := 44) (s := 69) (b := true) rfl (by kernel_rfl) r69)]
                 exact hK _ _ rfl trivial (hS))
          · intro L vs A' u hW hL0 hnd K' hK
            have hS := hW.wi.s
            have r74 : A'.tmps[74]? = some (gv (!g2 && f) (iv p.2)) := by
              obtain ⟨x, e, h⟩ := hW.tel 49 74 (by decide) (hnd 49 (by kernel_rfl)) rfl
              rw [e]; exact congrArg some h
            have r76 : A'.tmps[76]? = some (gv (!g2 && f) (iv i.xf)) := by
              obtain ⟨x, e, h⟩ := hW.tel 51 76 (by decide) (hnd 51 (by kernel_rfl)) rfl
              rw [e]; exact congrArg some h
            have r69 : A'.tmps[69]? = some (gv (!g2) (.bool f)) := by
              obtain ⟨x, e, h⟩ := hW.tel 44 69 (by decide) (hnd 44 (by kernel_rfl)) rfl
              rw [e]; exact congrArg some h
            cases g2 <;> cases f
            all_goals first | replace r74 := gv_yes r74 rfl | replace r74 := gv_no r74 rfl
            all_goals first | replace r76 := gv_yes r76 rfl | replace r76 := gv_no r76 rfl
            all_goals first | replace r69 := gv_yes r69 rfl | replace r69 := gv_no r69 rfl
            all_goals
              first
              | (rw [if_pos (wanted_yes (j := 44) (s := 69) (b := true) rfl (by kernel_rfl) r69)]
                 go_simp
                 exact hK _ _ (by first | rfl | exact congrArg Value.bool Hg.out | (refine congrArg Value.bool (Eq.trans ?_ Hg.out); rw [decide_eq_decide]; omega)) trivial (hS))
              | (rw [if_neg (wanted_no (j := 44) (s := 69) (b := true) rfl (by kernel_rfl) r69)]
                 exact hK _ _ rfl trivial (hS))
              | (rw [if_neg (wanted_no2 (j := 44) (s := 69) (b := true) rfl (by kernel_rfl) r69)]
                 exact hK _ _ rfl trivial (hS))
          · intro L vs A' u hW hL0 hnd K' hK
            have hS := hW.wi.s
            have r69 : A'.tmps[69]? = some (gv (!g2) (.bool f)) := by
              obtain ⟨x, e, h⟩ := hW.tel 44 69 (by decide) (hnd 44 (by kernel_rfl)) rfl
              rw [e]; exact congrArg some h
            have r77 : A'.tmps[77]? = some (gv (!g2 && f) (.bool g)) := by
              obtain ⟨x, e, h⟩ := hW.tel 52 77 (by decide) (hnd 52 (by kernel_rfl)) rfl
              rw [e]; exact congrArg some h
            have r65 : A'.tmps[65]? = some (.bool g2) := by
              obtain ⟨x, e, h⟩ := hW.tel 40 65 (by decide) (hnd 40 (by kernel_rfl)) rfl
              rw [e]; exact congrArg some h
            cases g2 <;> cases f
            all_goals first | replace r69 := gv_yes r69 rfl | replace r69 := gv_no r69 rfl
            all_goals first | replace r77 := gv_yes r77 rfl | replace r77 := gv_no r77 rfl
            all_goals
              first
              | (rw [if_pos (wanted_yes (j := 40) (s := 65) (b := false) rfl (by kernel_rfl) r65)]
                 go_simp
                 exact hK _ _ (by first | rfl | (show _ = _; simp)) trivial (hS))
              | (rw [if_neg (wanted_no (j := 40) (s := 65) (b := false) rfl (by kernel_rfl) r65)]
                 exact hK _ _ rfl trivial (hS))
              | (rw [if_neg (wanted_no2 (j := 40) (s := 65) (b := false) rfl (by kernel_rfl) r65)]
                 exact hK _ _ rfl trivial (hS))
          · intro L vs A' u hW hL0 hnd K' hK
            have hS := hW.wi.s
            have r65 : A'.tmps[65]? = some (.bool g2) := by
              obtain ⟨x, e, h⟩ := hW.tel 40 65 (by decide) (hnd 40 (by kernel_rfl)) rfl
              rw [e]; exact congrArg some h
            have r78 : A'.tmps[78]? = some (gv (!g2) (.bool (f && g))) := by
              obtain ⟨x, e, h⟩ := hW.tel 53 78 (by decide) (hnd 53 (by kernel_rfl)) rfl
              rw [e]; exact congrArg some h
            cases g2 <;> cases f
            all_goals first | replace r78 := gv_yes r78 rfl | replace r78 := gv_no r78 rfl
            all_goals
              go_simp
              exact hK _ _ (by first | exact congrArg Value.bool Hg3.out | (refine congrArg Value.bool (Eq.trans ?_ Hg3.out); simp)) trivial (hS)
        case doneR =>
          intro L vs u9 hS hP hall
          have e0 : vs 0 = .slice (some ad) l.length cc := hP 0 (by decide)
          have e1 : vs 1 = iv k := hP 1 (by decide)
          have e2 : vs 2 = .pointer (some (ad.add (k * 2))) := hP 2 (by decide)
          have e3 : vs 3 = .pointer (some (ad.add (k * 2))) := hP 3 (by decide)
          have e4 : vs 4 = iv p.1 := hP 4 (by decide)
          have e5 : vs 5 = .pointer (some ⟨w.heap.size, 4, none⟩) := hP 5 (by decide)
          have e6 : vs 6 = iv i.xb := hP 6 (by decide)
          have e7 : vs 7 = .bool a := hP 7 (by decide)
          have e8 : vs 8 = .bool a := hP 8 (by decide)
          have e9 : vs 9 = gv (!a) (iv k) := hP 9 (by decide)
          have e10 : vs 10 = gv (!a) (iv ((k : Int) + 1)) := hP 10 (by decide)
          have e11 : vs 11 = gv (!a) (.slice (some ad) l.length cc) := hP 11 (by decide)
          have e12 : vs 12 = gv (!a) (iv l.length) := hP 12 (by decide)
          have e13 : vs 13 = gv (!a) (.bool b) := hP 13 (by decide)
          have e14 : vs 14 = gv (!a) (.bool b) := hP 14 (by decide)
          have e15 : vs 15 = gv (!a && b) (.slice (some ad) l.length cc) := hP 15 (by decide)
          have e16 : vs 16 = gv (!a && b) (iv k) := hP 16 (by decide)
          have e17 : vs 17 = gv (!a && b) (.pointer (some (ad.add (k * 2)))) := hP 17 (by decide)
          have e18 : vs 18 = gv (!a && b) (.pointer (some (ad.add (k * 2)))) := hP 18 (by decide)
          have e19 : vs 19 = gv (!a && b) (iv p.1) := hP 19 (by decide)
          have e20 : vs 20 = gv (!a && b) (.pointer (some ⟨w.heap.size, 3, none⟩)) := hP 20 (by decide)
          have e21 : vs 21 = gv (!a && b) (iv i.mb) := hP 21 (by decide)
          have e22 : vs 22 = gv (!a && b) (.bool c) := hP 22 (by decide)
          have e23 : vs 23 = gv (!a) (.bool (b && c)) := hP 23 (by decide)
          have e24 : vs 24 = .bool g1 := hP 24 (by decide)
          have e25 : vs 25 = .bool g1 := hP 25 (by decide)
          have e26 : vs 26 = gv (!g1) (.pointer (some ⟨w.heap.size, 5, none⟩)) := hP 26 (by decide)
          have e27 : vs 27 = gv (!g1) (iv i.mf) := hP 27 (by decide)
          have e28 : vs 28 = gv (!g1) (.bool d) := hP 28 (by decide)
          have e29 : vs 29 = gv (!g1) (.bool d) := hP 29 (by decide)
          have e30 : vs 30 = gv (!g1 && d) (.slice (some ad) l.length cc) := hP 30 (by decide)
          have e31 : vs 31 = gv (!g1 && d) (iv k) := hP 31 (by decide)
          have e32 : vs 32 = gv (!g1 && d) (.pointer (some (ad.add (k * 2)))) := hP 32 (by decide)
          have e33 : vs 33 = gv (!g1 && d) (.pointer (some ⟨(ad.add (k * 2)).block, (ad.add (k * 2)).off + 1, none⟩)) := hP 33 (by decide)
          have e34 : vs 34 = gv (!g1 && d) (iv p.2) := hP 34 (by decide)
          have e35 : vs 35 = gv (!g1 && d) (.pointer (some ⟨w.heap.size, 5, none⟩)) := hP 35 (by decide)
          have e36 : vs 36 = gv (!g1 && d) (iv i.mf) := hP 36 (by decide)
          have e37 : vs 37 = gv (!g1 && d) (.bool e) := hP 37 (by decide)
          have e38 : vs 38 = gv (!g1) (.bool (d && e)) := hP 38 (by decide)
          have e39 : vs 39 = .bool g2 := hP 39 (by decide)
          have e40 : vs 40 = .bool g2 := hP 40 (by decide)
          have e41 : vs 41 = gv (!g2) (.pointer (some ⟨w.heap.size, 6, none⟩)) := hP 41 (by decide)
          have e42 : vs 42 = gv (!g2) (iv i.xf) := hP 42 (by decide)
          have e43 : vs 43 = gv (!g2) (.bool f) := hP 43 (by decide)
          have e44 : vs 44 = gv (!g2) (.bool f) := hP 44 (by decide)
          have e45 : vs 45 = gv (!g2 && f) (.slice (some ad) l.length cc) := hP 45 (by decide)
          have e46 : vs 46 = gv (!g2 && f) (iv k) := hP 46 (by decide)
          have e47 : vs 47 = gv (!g2 && f) (.pointer (some (ad.add (k * 2)))) := hP 47 (by decide)
          have e48 : vs 48 = gv (!g2 && f) (.pointer (some ⟨(ad.add (k * 2)).block, (ad.add (k * 2)).off + 1, none⟩)) := hP 48 (by decide)
          have e49 : vs 49 = gv (!g2 && f) (iv p.2) := hP 49 (by decide)
          have e50 : vs 50 = gv (!g2 && f) (.pointer (some ⟨w.heap.size, 6, none⟩)) := hP 50 (by decide)
          have e51 : vs 51 = gv (!g2 && f) (iv i.xf) := hP 51 (by decide)
          have e52 : vs 52 = gv (!g2 && f) (.bool g) := hP 52 (by decide)
          have e53 : vs 53 = gv (!g2) (.bool (f && g)) := hP 53 (by decide)
          have e54 : vs 54 = .bool g3 := hP 54 (by decide)
          simp only [putV, List.foldl_cons, List.foldl_nil, List.setIfInBounds_toArray, List.set_cons_zero, List.set_cons_succ, e0, e1, e2, e3, e4, e5, e6, e7, e8, e9, e10, e11, e12, e13, e14, e15, e16, e17, e18, e19, e20, e21, e22, e23, e24, e25, e26, e27, e28, e29, e30, e31, e32, e33, e34, e35, e36, e37, e38, e39, e40, e41, e42, e43, e44, e45, e46, e47, e48, e49, e50, e51, e52, e53, e54]
          have XO := Lib.hid (HOr.out.trans hS)
          clear e0 e1 e2 e3 e4 e5 e6 e7 e8 e9 e10 e11 e12 e13 e14 e15 e16 e17 e18 e19 e20 e21 e22 e23 e24 e25 e26 e27 e28 e29 e30 e31 e32 e33 e34 e35 e36 e37 e38 e39 e40 e41 e42 e43 e44 e45 e46 e47 e48 e49 e50 e51 e52 e53 e54 hP hall fr_R hS
          rw [HBd.out] at HAb
          clear HBd Ha Hb Hc Hd He Hf Hg Hg1 Hg2 Hg3 hx hy
          cases g3 with
          | true =>
            go_wp2
            go_roundw
            case rel => exact ⟨k + 1, hlt, by go_num, by rw [HSm.out] <;> go_num, by rw [HAb.out]; simp [w22], XO.out⟩
            case measure => simp [intOf]; omega
          | false =>
            go_wp2
            go_roundw
            case rel => exact ⟨k + 1, hlt, by go_num, by rw [HSm.out] <;> go_num, by rw [HAb.out]; simp, XO.out⟩
            case measure => simp [intOf]; omega
      · have hlti : ¬ (k : Int) < (l.length : Int) := by omega
        have hd : decide (k < l.length) = false := by simp; omega
        obtain rfl : k = l.length := by omega
        rw [List.take_length]
        have R3 := cell_keep ho Q3.out
        have R5 := cell_keep ho Q5.out
        have R6 := cell_keep ho Q6.out
        have R7 := cell_keep ho Q7.out
        have HBr := Lib.hid (HB.out.only ho (fun e => e))
        have HCr := Lib.hid (HCv.out wr ho)
        have HOf := Lib.hid (HO.out.trans ho)
        have HE0 : Hid (l.length = 0 → cvE i l = 20) := Lib.hid (fun h => by rw [List.eq_nil_of_length_eq_zero h]; rfl)
        have HE1 : Hid (l.length ≠ 0 → i.t ≠ 0 → i.t ≠ sumB l → cvE i l = 22) := Lib.hid (fun h h1 h2 => cv_total (fun e => h (by rw [e]; rfl)) h1 h2)
        have HE2 : Hid (l.length ≠ 0 → 0 ≤ i.mf → 0 ≤ i.xf → (i.t = 0 ∨ i.t = sumB l) → cvE i l = w22 (anyBad i l l.length)) := Lib.hid (fun h h1 h2 h3 => cv_any (fun e => h (by rw [e]; rfl)) h1 h2 h3)
        have hsum : l.length = 0 → sumB l = 0 := fun h => by rw [List.eq_nil_of_length_eq_zero h]; rfl
        have HSz := Lib.hid hsum
        generalize w22 (anyBad i l l.length) = X at *
        generalize sumB l = T at *
        generalize cvE i l = E at *
        obtain ⟨r', c', d', mb, xb, mf, xf, t, s⟩ := i
        simp only at R3 R5 R6 R7 HE0 HE1 HE2
        clear ho hsum HL HV HCv HFw Q3 Q4 Q5 Q6 Q7 HB
        rcases (show mf < 0 ∨ (0 ≤ mf ∧ xf < 0) ∨ (0 ≤ mf ∧ 0 ≤ xf ∧ t < 0) ∨ (0 ≤ mf ∧ 0 ≤ xf ∧ 0 ≤ t) by omega) with h | ⟨h, h2⟩ | ⟨h, h2, h3⟩ | ⟨h, h2, h3⟩
        case inr.inr.inr =>
          have d1 : decide (mf < 0) = false := by rw [decide_eq_false_iff_not]; omega
          have d2 : decide (xf < 0) = false := by rw [decide_eq_false_iff_not]; omega
          have d3 : decide (t < 0) = false := by rw [decide_eq_false_iff_not]; omega
          rcases (show l.length = 0 ∨ (l.length ≠ 0 ∧ 0 < t ∧ T ≠ t) ∨ (l.length ≠ 0 ∧ (t = 0 ∨ (0 < t ∧ T = t))) by omega) with g0 | ⟨g0, g1, g2⟩ | ⟨g0, g1⟩
          · have HE := Lib.hid (HE0.out g0)
            rw [HE.out, g0] at HCr
            have g0i : (l.length : Int) = 0 := by omega
            clear HE0 HE1 HE2
            by_cases k1 : 0 < t <;> by_cases k2 : T = t
            all_goals
              go_wp2_with (first
                | (refine wpList_load_info_g 13 105 false rfl rfl rfl (.tmp 2) rfl w.heap.size _ rfl HBr.out HI.out ?_; rw [HC.out])
                | fail)
              refine (HCr.out).mono ?_
              rintro e w3 ⟨rfl, o3⟩
              have HO3 := Lib.hid (HOf.out.trans o3)
              have HA3 := Lib.hid (HAw.out w3)
              clear o3
              go_wp2_with fail
              refine (HA3.out).mono ?_
              rintro e w4 ⟨rfl, o4⟩
              have HO4 := Lib.hid (HO3.out.trans o4)
              clear o4
              go_wp2
              go_ret
              exact ⟨rfl, HO4.out⟩
          · have HE := Lib.hid (HE1.out g0 (by omega) (fun e => g2 e.symm))
            rw [HE.out] at HCr
            have g0i : ¬ (l.length : Int) = 0 := by omega
            clear HE0 HE1 HE2
            go_wp2_with (first
              | (refine wpList_load_info_g 13 105 false rfl rfl rfl (.tmp 2) rfl w.heap.size _ rfl HBr.out HI.out ?_; rw [HC.out])
              | fail)
            refine (HCr.out).mono ?_
            rintro e w3 ⟨rfl, o3⟩
            have HO3 := Lib.hid (HOf.out.trans o3)
            have HA3 := Lib.hid (HAw.out w3)
            clear o3
            go_wp2_with fail
            refine (HA3.out).mono ?_
            rintro e w4 ⟨rfl, o4⟩
            have HO4 := Lib.hid (HO3.out.trans o4)
            clear o4
            go_wp2
            go_ret
            exact ⟨rfl, HO4.out⟩
          · have HE := Lib.hid (HE2.out g0 h h2 (by rcases g1 with g1 | ⟨_, g1⟩; exact .inl g1; exact .inr g1.symm))
            rw [HE.out] at HCr
            have g0i : ¬ (l.length : Int) = 0 := by omega
            clear HE0 HE1 HE2
            rcases g1 with g1 | ⟨g1, g2⟩
            all_goals
              go_wp2_with (first
                | (refine wpList_load_info_g 13 105 false rfl rfl rfl (.tmp 2) rfl w.heap.size _ rfl HBr.out HI.out ?_; rw [HC.out])
                | fail)
              refine (HCr.out).mono ?_
              rintro e w3 ⟨rfl, o3⟩
              have HO3 := Lib.hid (HOf.out.trans o3)
              have HA3 := Lib.hid (HAw.out w3)
              clear o3
              go_wp2_with fail
              refine (HA3.out).mono ?_
              rintro e w4 ⟨rfl, o4⟩
              have HO4 := Lib.hid (HO3.out.trans o4)
              clear o4
              go_wp2
              go_ret
              exact ⟨rfl, HO4.out⟩
        all_goals
          have HA3 := Lib.hid (HAw.out wr)
          clear HE0 HE1 HE2 HSz
          by_cases g0 : l.length = 0 <;> by_cases k1 : 0 < t <;> by_cases k2 : T = t
          all_goals
            have g0i : (l.length : Int) = 0 ↔ l.length = 0 := by omega
            simp only [g0, iff_true, iff_false] at g0i
            first
            | (exfalso; omega)
            | (go_wp2_with fail
               refine (HA3.out).mono ?_
               rintro e w4 ⟨rfl, o4⟩
               have HO4 := Lib.hid (HOf.out.trans o4)
               clear o4
               go_wp2
               go_ret
               exact ⟨rfl, HO4.out⟩)
  · rw [decide_eq_false hfew] at HFw
    clear hfew
    go_enter Try.func8, Try.ntmps8
    go_wp2_with fail
    refine (HFw.out).mono ?_
    rintro e w2 ⟨rfl, rfl⟩
    have HA2 := Lib.hid (HAw.out W1)
    go_wp2_with fail
    refine (HA2.out).mono ?_
    rintro e w3 ⟨rfl, o3⟩
    have HO3 := Lib.hid (HO.out.trans o3)
    clear o3
    go_wp2
    go_ret
    exact ⟨rfl, HO3.out⟩
end Go.Proofs.Ytllpeknjnhdbmaa
