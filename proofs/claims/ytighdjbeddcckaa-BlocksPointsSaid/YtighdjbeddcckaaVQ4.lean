/-
  The document's Points: its walk.
-/
import Derived.Test.YtighdjbeddcckaaVQ3
import Derived.Test.YtighdjbeddcckaaVR
namespace Go.Proofs.Ytighdjbeddcckaa
open Go.RowKit Go.Shelf

theorem add_sq (a : Addr) (k : Nat) : a.add (k + 1) = ⟨a.block, a.off + (k + 1), none⟩ := by unfold Addr.add; rw [if_neg (by simp)]
theorem nb_sg {s : List Nat} (hl : s.length = 8) (hb : ∀ x ∈ s, x < 256) : (0 ≤ nbV s ↔ 0 ≤ sg (vl s)) ∧ (nbV s < -1 ↔ sg (vl s) < -1) ∧ (-1 ≤ nbV s → nbV s = sg (vl s)) ∧ (-2 ≤ nbV s ∧ nbV s ≤ 9223372036854775807) := by
  match s, hl with
  | [a, b, c, d, e, f, g, h], _ =>
    have h1 := hb a (by simp)
    have h2 := hb b (by simp)
    have h3 := hb c (by simp)
    have h4 := hb d (by simp)
    have h5 := hb e (by simp)
    have h6 := hb f (by simp)
    have h7 := hb g (by simp)
    have h8 := hb h (by simp)
    have hv : vl [a, b, c, d, e, f, g, h] = ((((((a * 256 + b) * 256 + c) * 256 + d) * 256 + e) * 256 + f) * 256 + g) * 256 + h := by simp [vl]
    have hg : ([a, b, c, d, e, f, g, h] : List Nat).getD 0 0 = a := rfl
    unfold nbV sg
    rw [hv, hg, IntKind.wrap_i64]
    by_cases ha : ∀ x ∈ [a, b, c, d, e, f, g, h], x = 255
    · rw [if_pos ha]
      have e1 := ha a (by simp)
      have e2 := ha b (by simp)
      have e3 := ha c (by simp)
      have e4 := ha d (by simp)
      have e5 := ha e (by simp)
      have e6 := ha f (by simp)
      have e7 := ha g (by simp)
      have e8 := ha h (by simp)
      subst e1 e2 e3 e4 e5 e6 e7 e8
      decide
    · rw [if_neg ha]
      have hn : ¬ (a = 255 ∧ b = 255 ∧ c = 255 ∧ d = 255 ∧ e = 255 ∧ f = 255 ∧ g = 255 ∧ h = 255) := fun hh => ha (by
        intro x hx
        simp at hx
        omega)
      obtain ⟨V, hV⟩ : ∃ V, ((((((a * 256 + b) * 256 + c) * 256 + d) * 256 + e) * 256 + f) * 256 + g) * 256 + h = V := ⟨_, rfl⟩
      rw [hV]
      have k1 : V < 18446744073709551615 := by omega
      have k2 : 127 < a → 9223372036854775808 ≤ V := by omega
      have k3 : ¬ 127 < a → V < 9223372036854775808 := by omega
      clear hV hn ha hv hg hb
      by_cases h0 : 127 < a
      · rw [if_pos h0]
        have := k2 h0
        omega
      · rw [if_neg h0]
        have := k3 h0
        omega
/-- a point is appended -/
theorem app_pt {w : World} {ops : Array Oper} {rest : List Oper} {o : Oper} {a : Act} {Q : Exit → Act → World → Prop} (hgd : o.guard = none) (s x : Operand)
    (ho : o.op = .call { callee := .builtin .append, args := #[s, x], argTypes := #[44, 44] })
    (base : Nat) (v : Value) (l : List Pt) (hs : a.eval s = v) (hown : Own3 w base v l) (g : Nat) (p : Pt) (hx : a.eval x = .slice (some ⟨g, 0, none⟩) 1 1) (hc : Box w g 70 #[iv p.1, iv p.2.1, iv p.2.2]) (h63 : l.length ≤ 100000) (hbase : base ≤ w.heap.size)
    (h : ∀ v' w', Own3 w' base v' (l ++ [p]) → w.grownBy w' v.ownBlock → (v'.ownBlock = v.ownBlock ∨ v'.ownBlock = some w.heap.size) → wpList Try.prog ops Q rest (a.put o.dst v') w') : wpList Try.prog ops Q (o :: rest) a w := by
  obtain ⟨i0, hi, hz⟩ := Try.info_row3
  simp only [Prod.mk.injEq] at hz
  obtain ⟨hz0, hz1, hz2⟩ := hz
  refine wpList_append_own_at w hgd s x 44 ho base 70 i0 (.agg #[iv 0, iv 0, iv 0]) 3 24 Try.underlying44 hi hz0 hz1 hz2 rfl (by decide) v l.length (flat l) hs hown ⟨g, 0, none⟩ 1 1 (ptf p) hx rfl (fun j u hu => ?_) (fun u hu => ?_) (by unfold maxLen; omega) (by omega) hbase ?_
  · rw [Addr.add_lit, Nat.zero_add, hc.cell]
    simpa [ptf] using hu
  · unfold ptf at hu
    simp at hu
    rcases hu with rfl | rfl | rfl <;> rfl
  · intro v' w' h1 h2 _ h4
    refine h v' w' ?_ h2 h4
    unfold Own3
    rw [List.length_append, flat_snoc]
    exact h1
/-- the world of region 7 -/
structure PsW (wr : World) (g : Nat) (n0 n1 cc : Int) (L : Nat → Bool) (u : World) : Prop where
  only : Only Nix wr u
  pre : L 28 = false → u.heap.size = g
  mid : L 28 = true → L 29 = false → Box u g 70 #[iv 0, iv 0, iv 0]
  fin : L 29 = true → Box u g 70 #[iv n0, iv n1, iv cc]
theorem PsW.same {wr u : World} {g : Nat} {n0 n1 cc : Int} {L : Nat → Bool} {i : Nat} (h : PsW wr g n0 n1 cc L u) (h1 : 28 ≠ i) (h2 : 29 ≠ i) : PsW wr g n0 n1 cc (andOne L i) u :=
  ⟨h.only, fun e => h.pre (by rwa [andOne_ne h1] at e), fun e e2 => h.mid (by rwa [andOne_ne h1] at e) (by rwa [andOne_ne h2] at e2), fun e => h.fin (by rwa [andOne_ne h2] at e)⟩
def RqI (w : World) (bs : List Nat) (s4 s5 : Value) (wr : World) : Prop := ∃ k : Nat, k ≤ bs.length / 18 ∧ s5 = iv ((18 * k : Nat) : Int) ∧ mayN (rdT bs) k ∧ Own3 wr w.heap.size s4 ((rdT bs).take k) ∧ Only Nix w wr
theorem gt_rdT {bs : List Nat} {k : Nat} (hk : k < bs.length / 18) : gt (rdT bs) k = ptOf bs k := by
  rw [gt_eq (by rw [rdT_len]; exact hk)]
  simp [rdT]
set_option maxRecDepth 100000 in
set_option maxHeartbeats 16000000 in
theorem pointsRef_any {w : World} {A : Option Addr} {c : Nat} {bs : List Nat} (hs : Src w (.slice A bs.length c) bs) (hc : bs.length ≤ c) (hn : bs.length ≤ 100000) : Calls Try.prog 21 #[.slice A bs.length c] w fun e w' => PsR w bs e w' := by
  have hcs : CSrc w (.slice A bs.length c) bs := ⟨hs, fun _ _ _ e => by injection e with _ e2 e3; omega⟩
  have HS := Lib.hid hcs
  clear hs hcs
  by_cases h18 : bs.length % 18 = 0
  · have hps : psE bs = orE (rdT bs) := if_pos h18
    have hrl := rdT_len bs
    have hmod : ((bs.length : Int) % 18 != 0) = false := by simp; omega
    have HRb : Hid (∀ k w', k < bs.length / 18 → ¬ mayT (gt (rdT bs) k) → Only Nix w w' → PsR w bs (.returned (.tuple #[.slice none 0 0, iv 10])) w') := Lib.hid (fun k w' hk hb ho => by
      have he : psE bs = 10 := hps.trans (if_neg (fun h => hb (h k (by rw [hrl]; exact hk))))
      exact ⟨_, by rw [he], by unfold psL; rw [he, if_neg (by decide)]; exact TSrc.nil _, ho⟩)
    have HEnd : Hid (∀ v w', mayN (rdT bs) (bs.length / 18) → Own3 w' w.heap.size v ((rdT bs).take (bs.length / 18)) → TSrc w' v (rdT bs)) := Lib.hid (fun v w' hm ho => by
      have e : (rdT bs).take (bs.length / 18) = rdT bs := List.take_of_length_le (by rw [hrl]; exact Nat.le_refl _)
      rw [e] at ho
      refine ho.tsrc (by rw [hrl]; omega) (fun p hp => ?_)
      unfold rdT at hp
      obtain ⟨k, _, rfl⟩ := List.mem_map.1 hp
      exact ptOf_fits bs k)
    have HOd : Hid (∀ u v, TSrc u v (rdT bs) → Calls Try.prog 32 #[v] u fun e w' => e = .returned (.bool (decide (orR (rdT bs) (rdT bs).length))) ∧ Only Nix u w') := Lib.hid (fun u v h => ordered_any h (by rw [hrl]; omega))
    have HNum : Hid (∀ u i, i + 8 ≤ bs.length → Only Nix w u → Calls Try.prog 35 #[.slice (cutA A c i) 8 (c - i)] u fun e w' => e = .returned (iv (nbV ((bs.drop i).take 8))) ∧ u = w') := Lib.hid (fun u i hi ho => numberRef_any ((csrc_win HS.out i 8 (by omega)).src.nix ho) (by rw [List.length_take, List.length_drop]; omega))
    have Hps := Lib.hid hps
    have Hrl := Lib.hid hrl
    have H18 := Lib.hid h18
    clear hps hrl h18
    go_enter Try.func21, Try.ntmps21
    go_wp2
    go_loopw [4, 5] (fun s4 s5 wr => RqI w bs s4 s5 wr) (fun _ s5 _ => bs.length - (intOf s5).toNat)
    case atStart => exact ⟨0, Nat.zero_le _, rfl, (fun i hi => absurd hi (by omega)), ⟨by simp [flat], .inl ⟨rfl, rfl⟩⟩, Only.refl _ _⟩
    case round =>
      obtain ⟨k, hk, rfl, hm, hown, ho⟩ := hrel
      have HM := Lib.hid hm
      have HW := Lib.hid hown
      have HO := Lib.hid ho
      clear hm hown ho
      by_cases hlt : k < bs.length / 18
      · obtain ⟨I, hI⟩ : ∃ I, 18 * k = I := ⟨_, rfl⟩
        have hI18 : I + 18 ≤ bs.length := by omega
        have HIn : Hid (18 * (k + 1) = I + 18) := Lib.hid (by omega)
        have HIk := Lib.hid hI
        have hIi : (I : Int) < (bs.length : Int) := by omega
        have hq16 : (I : Int) + 16 < (bs.length : Int) := by omega
        have hq17 : (I : Int) + 17 < (bs.length : Int) := by omega
        rw [hI]
        obtain ⟨ad, hAd, hx16⟩ := (HS.out.src.nix HO.out).at_ (k := I + 16) (by omega)
        obtain ⟨_, hAd2, hx17⟩ := (HS.out.src.nix HO.out).at_ (k := I + 17) (by omega)
        rw [hAd] at hAd2
        injection hAd2 with hAd2
        subst hAd2
        have hb16 := HS.out.src.lt _ (List.getElem_mem (show I + 16 < bs.length by omega))
        have hb17 := HS.out.src.lt _ (List.getElem_mem (show I + 17 < bs.length by omega))
        have hseg : (bs.drop (I + 16)).take 2 = [bs[I + 16], bs[I + 17]] := by
          rw [List.drop_eq_getElem_cons (show I + 16 < bs.length by omega), List.drop_eq_getElem_cons (show I + 17 < bs.length by omega)]
          rfl
        have hl0 : ((bs.drop I).take 8).length = 8 := by rw [List.length_take, List.length_drop]; omega
        have hl8 : ((bs.drop (I + 8)).take 8).length = 8 := by rw [List.length_take, List.length_drop]; omega
        have hnb0 := nb_sg hl0 (fun x hx => HS.out.src.lt x (List.mem_of_mem_drop (List.mem_of_mem_take hx)))
        have hnb8 := nb_sg hl8 (fun x hx => HS.out.src.lt x (List.mem_of_mem_drop (List.mem_of_mem_take hx)))
        have hpt : gt (rdT bs) k = (sg (vl ((bs.drop I).take 8)), sg (vl ((bs.drop (I + 8)).take 8)), sg (vl [bs[I + 16], bs[I + 17]])) := by
          rw [gt_rdT hlt]
          unfold ptOf
          rw [hI, hseg]
        have hcc : sg (vl [bs[I + 16], bs[I + 17]]) = (bs[I + 16] : Int) * 256 + (bs[I + 17] : Int) := by
          have : vl [bs[I + 16], bs[I + 17]] = bs[I + 16] * 256 + bs[I + 17] := by simp [vl]
          rw [this]
          unfold sg
          rw [IntKind.wrap_i64]
          omega
        rw [hcc] at hpt
        have HN0 := Lib.hid (fun u ho => HNum.out u I (by omega) ho)
        have HN8 := Lib.hid (fun u ho => HNum.out u (I + 8) (by omega) ho)
        have hs0 : ∀ u, (Instr.slice 22 (.slice A bs.length c) (some (.int .i64 (I : Int))) (some (.int .i64 ((I : Int) + 8))) none).run Try.prog u = .ok (.slice (cutA A c I) 8 (c - I)) u := fun u => by
          have h := slice_win A bs.length c I (I + 8) (by omega) (by omega) u
          rw [show I + 8 - I = 8 by omega, show ((I + 8 : Nat) : Int) = (I : Int) + 8 by omega] at h
          exact h
        have hs8 : ∀ u, (Instr.slice 22 (.slice A bs.length c) (some (.int .i64 ((I : Int) + 8))) (some (.int .i64 ((I : Int) + 16))) none).run Try.prog u = .ok (.slice (cutA A c (I + 8)) 8 (c - (I + 8))) u := fun u => by
          have h := slice_win A bs.length c (I + 8) (I + 16) (by omega) (by omega) u
          rw [show I + 16 - (I + 8) = 8 by omega, show ((I + 8 : Nat) : Int) = (I : Int) + 8 by omega, show ((I + 16 : Nat) : Int) = (I : Int) + 16 by omega] at h
          exact h
        have HTk : Hid ((rdT bs).take (k + 1) = (rdT bs).take k ++ [gt (rdT bs) k]) := Lib.hid (by
          have hk2 : k < (rdT bs).length := by rw [Hrl.out]; exact hlt
          rw [List.take_succ_eq_append_getElem hk2, gt_eq hk2])
        have HMj := Lib.hid (fun h => mayN_one HM.out (show mayT (gt (rdT bs) k) from h))
        have HRj := Lib.hid (fun w' => HRb.out k w' hlt)
        have HLk : Hid (((rdT bs).take k).length ≤ 100000) := Lib.hid (by rw [List.length_take, Hrl.out]; omega)
        rw [add_sq ad (I + 15)] at hx16
        rw [add_sq ad (I + 16)] at hx17
        have HX16 := Lib.hid hx16
        have HX17 := Lib.hid hx17
        have Hnb0 := Lib.hid hnb0
        have Hnb8 := Lib.hid hnb8
        generalize bs[I + 16] = x16 at *
        generalize bs[I + 17] = x17 at *
        obtain ⟨n0, hn0⟩ : ∃ z, nbV ((bs.drop I).take 8) = z := ⟨_, rfl⟩
        obtain ⟨n1, hn1⟩ : ∃ z, nbV ((bs.drop (I + 8)).take 8) = z := ⟨_, rfl⟩
        rw [hn0] at HN0 Hnb0
        rw [hn1] at HN8 Hnb8
        obtain ⟨S0, hS0⟩ : ∃ z, sg (vl ((bs.drop I).take 8)) = z := ⟨_, rfl⟩
        obtain ⟨S1, hS1⟩ : ∃ z, sg (vl ((bs.drop (I + 8)).take 8)) = z := ⟨_, rfl⟩
        rw [hS0] at hpt Hnb0
        rw [hS1] at hpt Hnb8
        rw [hpt] at HTk HMj HRj
        obtain ⟨A0, hA0⟩ : ∃ z, cutA A c I = z := ⟨_, rfl⟩
        obtain ⟨C0, hC0⟩ : ∃ z, c - I = z := ⟨_, rfl⟩
        obtain ⟨A8, hA8⟩ : ∃ z, cutA A c (I + 8) = z := ⟨_, rfl⟩
        obtain ⟨C8, hC8⟩ : ∃ z, c - (I + 8) = z := ⟨_, rfl⟩
        rw [hA0, hC0] at hs0 HN0
        rw [hA8, hC8] at hs8 HN8
        have HS0 := Lib.hid hs0
        have HS8 := Lib.hid hs8
        have Hz := Lib.hid (HO.out.size)
        obtain ⟨g, hg⟩ : ∃ z, wr.heap.size = z := ⟨_, rfl⟩
        have Hg := Lib.hid hg
        have HAd := Lib.hid hAd
        clear hx16 hx17 hnb0 hnb8 hn0 hn1 hS0 hS1 hA0 hC0 hA8 hC8 hs0 hs8 hpt hcc hseg hl0 hl8 hI hg hAd
        go_wp2_with fail
        have fr_R : ∀ j s, j < 30 → (([some 17, some 18, some 19, some 20, some 21, some 22, some 23, some 24, some 25, some 26, some 27, some 28, some 29, some 30, some 31, some 32, some 33, some 34, some 35, some 36, some 37, some 38, some 39, some 40, some 41, some 42, some 43, some 44, some 6, none] : List (Option Nat)).all fun d => d != some s) = true → ([some 17, some 18, some 19, some 20, some 21, some 22, some 23, some 24, some 25, some 26, some 27, some 28, some 29, some 30, some 31, some 32, some 33, some 34, some 35, some 36, some 37, some 38, some 39, some 40, some 41, some 42, some 43, some 44, some 6, none] : List (Option Nat)).getD j none ≠ some s := by
          intro j s hj ha e
          rw [List.getD_eq_getElem?_getD, List.getElem?_eq_getElem (by exact hj), Option.getD_some] at e
          have := List.all_eq_true.1 ha _ (List.getElem_mem (by exact hj))
          rw [e] at this
          simp at this
        refine region_tel (by kernel_rfl) (fun k0 => ([some 17, some 18, some 19, some 20, some 21, some 22, some 23, some 24, some 25, some 26, some 27, some 28, some 29, some 30, some 31, some 32, some 33, some 34, some 35, some 36, some 37, some 38, some 39, some 40, some 41, some 42, some 43, some 44, some 6, none] : List (Option Nat)).getD k0 none) (PL [eqP (.slice A bs.length c), eqP (iv I), eqP (iv I), eqP (iv ((I : Int) + 8)), eqP (.slice A0 8 C0), eqP (iv n0), eqP (.slice A bs.length c), eqP (iv I), eqP (iv ((I : Int) + 8)), eqP (iv I), eqP (iv ((I : Int) + 16)), eqP (.slice A8 8 C8), eqP (iv n1), eqP (.slice A bs.length c), eqP (iv I), eqP (iv ((I : Int) + 16)), eqP (.pointer (some (ad.add (I + 16)))), eqP (.int .u8 (x16 : Int)), eqP (iv x16), eqP (iv ((x16 : Int) * 256)), eqP (.slice A bs.length c), eqP (iv I), eqP (iv ((I : Int) + 17)), eqP (.pointer (some (ad.add (I + 17)))), eqP (.int .u8 (x17 : Int)), eqP (iv x17), eqP (iv ((x16 : Int) * 256 + (x17 : Int))), eqP (.agg #[iv n0, iv n1, iv ((x16 : Int) * 256 + (x17 : Int))]), eqP (.pointer (some ⟨g, 0, none⟩)), (fun _ _ => True)]) (fun _ _ => True) (PsW wr g n0 n1 ((x16 : Int) * 256 + (x17 : Int))) 61 30 rfl (by kernel_rfl) (by kernel_rfl) rfl (by kernel_rfl) (by kernel_rfl) (stab_all ⟨fun _ _ _ h _ => h, fun _ _ _ h _ => h, fun _ _ _ h _ => h, fun _ _ _ h _ => h, fun _ _ _ h _ => h, fun _ _ _ h _ => h, fun _ _ _ h _ => h, fun _ _ _ h _ => h, fun _ _ _ h _ => h, fun _ _ _ h _ => h, fun _ _ _ h _ => h, fun _ _ _ h _ => h, fun _ _ _ h _ => h, fun _ _ _ h _ => h, fun _ _ _ h _ => h, fun _ _ _ h _ => h, fun _ _ _ h _ => h, fun _ _ _ h _ => h, fun _ _ _ h _ => h, fun _ _ _ h _ => h, fun _ _ _ h _ => h, fun _ _ _ h _ => h, fun _ _ _ h _ => h, fun _ _ _ h _ => h, fun _ _ _ h _ => h, fun _ _ _ h _ => h, fun _ _ _ h _ => h, fun _ _ _ h _ => h, fun _ _ _ h _ => h, fun _ _ _ h _ => h, trivial⟩) (⟨(Only.refl _ _).drew, (fun _ => Hg.out), (fun e => by cases e), (fun e => by cases e)⟩) ?stepsR (fun vs => [(17, vs 0), (18, vs 1), (19, vs 2), (20, vs 3), (21, vs 4), (22, vs 5), (23, vs 6), (24, vs 7), (25, vs 8), (26, vs 9), (27, vs 10), (28, vs 11), (29, vs 12), (30, vs 13), (31, vs 14), (32, vs 15), (33, vs 16), (34, vs 17), (35, vs 18), (36, vs 19), (37, vs 20), (38, vs 21), (39, vs 22), (40, vs 23), (41, vs 24), (42, vs 25), (43, vs 26), (44, vs 27), (6, vs 28)]) (fun vs => rfl) ?doneR
        case stepsR =>
          refine ⟨?_, ?_, ?_, ?_, ?_, ?_, ?_, ?_, ?_, ?_, ?_, ?_, ?_, ?_, ?_, ?_, ?_, ?_, ?_, ?_, ?_, ?_, ?_, ?_, ?_, ?_, ?_, ?_, ?_, ?_, trivial⟩
          · intro L vs A' u hW hL0 hnd K' hK
            have hS := hW.wi.s
            have r0 : A'.tmps[0]? = some (.slice A bs.length c) := (hW.out 0 (fun j hj => fr_R j 0 hj (by kernel_rfl))).trans rfl
            go_simp
            exact hK _ _ (by first | rfl | (show _ = _; simp)) trivial (hS.same (by decide) (by decide))
          · intro L vs A' u hW hL0 hnd K' hK
            have hS := hW.wi.s
            have r5 : A'.tmps[5]? = some (iv I) := (hW.out 5 (fun j hj => fr_R j 5 hj (by kernel_rfl))).trans rfl
            go_simp
            exact hK _ _ (by first | rfl | (show _ = _; simp)) trivial (hS.same (by decide) (by decide))
          · intro L vs A' u hW hL0 hnd K' hK
            have hS := hW.wi.s
            have r5 : A'.tmps[5]? = some (iv I) := (hW.out 5 (fun j hj => fr_R j 5 hj (by kernel_rfl))).trans rfl
            go_simp
            exact hK _ _ (by first | rfl | (show _ = _; simp)) trivial (hS.same (by decide) (by decide))
          · intro L vs A' u hW hL0 hnd K' hK
            have hS := hW.wi.s
            have r19 : A'.tmps[19]? = some (iv I) := by
              obtain ⟨x, e, h⟩ := hW.tel 2 19 (by decide) (hnd 2 (by kernel_rfl)) rfl
              rw [e]; exact congrArg some h
            go_simp
            exact hK _ _ (by first | rfl | (show _ = _; simp; done) | (show _ = _; simp; rw [IntKind.wrap_i64]; omega)) trivial (hS.same (by decide) (by decide))
          · intro L vs A' u hW hL0 hnd K' hK
            have hS := hW.wi.s
            have r17 : A'.tmps[17]? = some (.slice A bs.length c) := by
              obtain ⟨x, e, h⟩ := hW.tel 0 17 (by decide) (hnd 0 (by kernel_rfl)) rfl
              rw [e]; exact congrArg some h
            have r18 : A'.tmps[18]? = some (iv I) := by
              obtain ⟨x, e, h⟩ := hW.tel 1 18 (by decide) (hnd 1 (by kernel_rfl)) rfl
              rw [e]; exact congrArg some h
            have r20 : A'.tmps[20]? = some (iv ((I : Int) + 8)) := by
              obtain ⟨x, e, h⟩ := hW.tel 3 20 (by decide) (hnd 3 (by kernel_rfl)) rfl
              rw [e]; exact congrArg some h
            have hsl := HS0.out u
            go_simp
            exact hK _ _ rfl trivial (hS.same (by decide) (by decide))
          · intro L vs A' u hW hL0 hnd K' hK
            have hS := hW.wi.s
            have r21 : A'.tmps[21]? = some (.slice A0 8 C0) := by
              obtain ⟨x, e, h⟩ := hW.tel 4 21 (by decide) (hnd 4 (by kernel_rfl)) rfl
              rw [e]; exact congrArg some h
            have HCL := Lib.hid (HN0.out u (HO.out.trans hS.only))
            go_simp
            refine (HCL.out).mono ?_
            rintro _ u' ⟨rfl, rfl⟩
            exact hK _ _ rfl trivial (hS.same (by decide) (by decide))
          · intro L vs A' u hW hL0 hnd K' hK
            have hS := hW.wi.s
            have r0 : A'.tmps[0]? = some (.slice A bs.length c) := (hW.out 0 (fun j hj => fr_R j 0 hj (by kernel_rfl))).trans rfl
            go_simp
            exact hK _ _ (by first | rfl | (show _ = _; simp)) trivial (hS.same (by decide) (by decide))
          · intro L vs A' u hW hL0 hnd K' hK
            have hS := hW.wi.s
            have r5 : A'.tmps[5]? = some (iv I) := (hW.out 5 (fun j hj => fr_R j 5 hj (by kernel_rfl))).trans rfl
            go_simp
            exact hK _ _ (by first | rfl | (show _ = _; simp)) trivial (hS.same (by decide) (by decide))
          · intro L vs A' u hW hL0 hnd K' hK
            have hS := hW.wi.s
            have r24 : A'.tmps[24]? = some (iv I) := by
              obtain ⟨x, e, h⟩ := hW.tel 7 24 (by decide) (hnd 7 (by kernel_rfl)) rfl
              rw [e]; exact congrArg some h
            go_simp
            exact hK _ _ (by first | rfl | (show _ = _; simp; done) | (show _ = _; simp; rw [IntKind.wrap_i64]; omega)) trivial (hS.same (by decide) (by decide))
          · intro L vs A' u hW hL0 hnd K' hK
            have hS := hW.wi.s
            have r5 : A'.tmps[5]? = some (iv I) := (hW.out 5 (fun j hj => fr_R j 5 hj (by kernel_rfl))).trans rfl
            go_simp
            exact hK _ _ (by first | rfl | (show _ = _; simp)) trivial (hS.same (by decide) (by decide))
          · intro L vs A' u hW hL0 hnd K' hK
            have hS := hW.wi.s
            have r26 : A'.tmps[26]? = some (iv I) := by
              obtain ⟨x, e, h⟩ := hW.tel 9 26 (by decide) (hnd 9 (by kernel_rfl)) rfl
              rw [e]; exact congrArg some h
            go_simp
            exact hK _ _ (by first | rfl | (show _ = _; simp; done) | (show _ = _; simp; rw [IntKind.wrap_i64]; omega)) trivial (hS.same (by decide) (by decide))
          · intro L vs A' u hW hL0 hnd K' hK
            have hS := hW.wi.s
            have r23 : A'.tmps[23]? = some (.slice A bs.length c) := by
              obtain ⟨x, e, h⟩ := hW.tel 6 23 (by decide) (hnd 6 (by kernel_rfl)) rfl
              rw [e]; exact congrArg some h
            have r25 : A'.tmps[25]? = some (iv ((I : Int) + 8)) := by
              obtain ⟨x, e, h⟩ := hW.tel 8 25 (by decide) (hnd 8 (by kernel_rfl)) rfl
              rw [e]; exact congrArg some h
            have r27 : A'.tmps[27]? = some (iv ((I : Int) + 16)) := by
              obtain ⟨x, e, h⟩ := hW.tel 10 27 (by decide) (hnd 10 (by kernel_rfl)) rfl
              rw [e]; exact congrArg some h
            have hsl := HS8.out u
            go_simp
            exact hK _ _ rfl trivial (hS.same (by decide) (by decide))
          · intro L vs A' u hW hL0 hnd K' hK
            have hS := hW.wi.s
            have r28 : A'.tmps[28]? = some (.slice A8 8 C8) := by
              obtain ⟨x, e, h⟩ := hW.tel 11 28 (by decide) (hnd 11 (by kernel_rfl)) rfl
              rw [e]; exact congrArg some h
            have HCL := Lib.hid (HN8.out u (HO.out.trans hS.only))
            go_simp
            refine (HCL.out).mono ?_
            rintro _ u' ⟨rfl, rfl⟩
            exact hK _ _ rfl trivial (hS.same (by decide) (by decide))
          · intro L vs A' u hW hL0 hnd K' hK
            have hS := hW.wi.s
            have r0 : A'.tmps[0]? = some (.slice A bs.length c) := (hW.out 0 (fun j hj => fr_R j 0 hj (by kernel_rfl))).trans rfl
            go_simp
            exact hK _ _ (by first | rfl | (show _ = _; simp)) trivial (hS.same (by decide) (by decide))
          · intro L vs A' u hW hL0 hnd K' hK
            have hS := hW.wi.s
            have r5 : A'.tmps[5]? = some (iv I) := (hW.out 5 (fun j hj => fr_R j 5 hj (by kernel_rfl))).trans rfl
            go_simp
            exact hK _ _ (by first | rfl | (show _ = _; simp)) trivial (hS.same (by decide) (by decide))
          · intro L vs A' u hW hL0 hnd K' hK
            have hS := hW.wi.s
            have r31 : A'.tmps[31]? = some (iv I) := by
              obtain ⟨x, e, h⟩ := hW.tel 14 31 (by decide) (hnd 14 (by kernel_rfl)) rfl
              rw [e]; exact congrArg some h
            go_simp
            exact hK _ _ (by first | rfl | (show _ = _; simp; done) | (show _ = _; simp; rw [IntKind.wrap_i64]; omega)) trivial (hS.same (by decide) (by decide))
          · intro L vs A' u hW hL0 hnd K' hK
            have hS := hW.wi.s
            have r30 : A'.tmps[30]? = some (.slice A bs.length c) := by
              obtain ⟨x, e, h⟩ := hW.tel 13 30 (by decide) (hnd 13 (by kernel_rfl)) rfl
              rw [e]; exact congrArg some h
            have r32 : A'.tmps[32]? = some (iv ((I : Int) + 16)) := by
              obtain ⟨x, e, h⟩ := hW.tel 15 32 (by decide) (hnd 15 (by kernel_rfl)) rfl
              rw [e]; exact congrArg some h
            have hAd2 := HAd.out
            subst hAd2
            go_simp
            exact hK _ _ (by first | rfl | (show _ = _; simp; done) | (show _ = _; simp [add_sq])) trivial (hS.same (by decide) (by decide))
          · intro L vs A' u hW hL0 hnd K' hK
            have hS := hW.wi.s
            have r33 : A'.tmps[33]? = some (.pointer (some (ad.add (I + 16)))) := by
              obtain ⟨x, e, h⟩ := hW.tel 16 33 (by decide) (hnd 16 (by kernel_rfl)) rfl
              rw [e]; exact congrArg some h
            have hq := cell_keep hS.only HX16.out
            rw [add_sq ad (I + 15)] at r33
            go_simp
            exact hK _ _ (by first | rfl | (show _ = _; simp)) trivial (hS.same (by decide) (by decide))
          · intro L vs A' u hW hL0 hnd K' hK
            have hS := hW.wi.s
            have r34 : A'.tmps[34]? = some (.int .u8 (x16 : Int)) := by
              obtain ⟨x, e, h⟩ := hW.tel 17 34 (by decide) (hnd 17 (by kernel_rfl)) rfl
              rw [e]; exact congrArg some h
            go_simp
            exact hK _ _ (by first | rfl | (show _ = _; simp; done) | (show _ = _; simp; rw [IntKind.wrap_i64]; omega)) trivial (hS.same (by decide) (by decide))
          · intro L vs A' u hW hL0 hnd K' hK
            have hS := hW.wi.s
            have r35 : A'.tmps[35]? = some (iv x16) := by
              obtain ⟨x, e, h⟩ := hW.tel 18 35 (by decide) (hnd 18 (by kernel_rfl)) rfl
              rw [e]; exact congrArg some h
            go_simp
            exact hK _ _ (by first | rfl | (show _ = _; simp; done) | (show _ = _; simp; rw [IntKind.wrap_i64]; omega)) trivial (hS.same (by decide) (by decide))
          · intro L vs A' u hW hL0 hnd K' hK
            have hS := hW.wi.s
            have r0 : A'.tmps[0]? = some (.slice A bs.length c) := (hW.out 0 (fun j hj => fr_R j 0 hj (by kernel_rfl))).trans rfl
            go_simp
            exact hK _ _ (by first | rfl | (show _ = _; simp)) trivial (hS.same (by decide) (by decide))
          · intro L vs A' u hW hL0 hnd K' hK
            have hS := hW.wi.s
            have r5 : A'.tmps[5]? = some (iv I) := (hW.out 5 (fun j hj => fr_R j 5 hj (by kernel_rfl))).trans rfl
            go_simp
            exact hK _ _ (by first | rfl | (show _ = _; simp)) trivial (hS.same (by decide) (by decide))
          · intro L vs A' u hW hL0 hnd K' hK
            have hS := hW.wi.s
            have r38 : A'.tmps[38]? = some (iv I) := by
              obtain ⟨x, e, h⟩ := hW.tel 21 38 (by decide) (hnd 21 (by kernel_rfl)) rfl
              rw [e]; exact congrArg some h
            go_simp
            exact hK _ _ (by first | rfl | (show _ = _; simp; done) | (show _ = _; simp; rw [IntKind.wrap_i64]; omega)) trivial (hS.same (by decide) (by decide))
          · intro L vs A' u hW hL0 hnd K' hK
            have hS := hW.wi.s
            have r37 : A'.tmps[37]? = some (.slice A bs.length c) := by
              obtain ⟨x, e, h⟩ := hW.tel 20 37 (by decide) (hnd 20 (by kernel_rfl)) rfl
              rw [e]; exact congrArg some h
            have r39 : A'.tmps[39]? = some (iv ((I : Int) + 17)) := by
              obtain ⟨x, e, h⟩ := hW.tel 22 39 (by decide) (hnd 22 (by kernel_rfl)) rfl
              rw [e]; exact congrArg some h
            have hAd2 := HAd.out
            subst hAd2
            go_simp
            exact hK _ _ (by first | rfl | (show _ = _; simp; done) | (show _ = _; simp [add_sq])) trivial (hS.same (by decide) (by decide))
          · intro L vs A' u hW hL0 hnd K' hK
            have hS := hW.wi.s
            have r40 : A'.tmps[40]? = some (.pointer (some (ad.add (I + 17)))) := by
              obtain ⟨x, e, h⟩ := hW.tel 23 40 (by decide) (hnd 23 (by kernel_rfl)) rfl
              rw [e]; exact congrArg some h
            have hq := cell_keep hS.only HX17.out
            rw [add_sq ad (I + 16)] at r40
            go_simp
            exact hK _ _ (by first | rfl | (show _ = _; simp)) trivial (hS.same (by decide) (by decide))
          · intro L vs A' u hW hL0 hnd K' hK
            have hS := hW.wi.s
            have r41 : A'.tmps[41]? = some (.int .u8 (x17 : Int)) := by
              obtain ⟨x, e, h⟩ := hW.tel 24 41 (by decide) (hnd 24 (by kernel_rfl)) rfl
              rw [e]; exact congrArg some h
            go_simp
            exact hK _ _ (by first | rfl | (show _ = _; simp; done) | (show _ = _; simp; rw [IntKind.wrap_i64]; omega)) trivial (hS.same (by decide) (by decide))
          · intro L vs A' u hW hL0 hnd K' hK
            have hS := hW.wi.s
            have r36 : A'.tmps[36]? = some (iv ((x16 : Int) * 256)) := by
              obtain ⟨x, e, h⟩ := hW.tel 19 36 (by decide) (hnd 19 (by kernel_rfl)) rfl
              rw [e]; exact congrArg some h
            have r42 : A'.tmps[42]? = some (iv x17) := by
              obtain ⟨x, e, h⟩ := hW.tel 25 42 (by decide) (hnd 25 (by kernel_rfl)) rfl
              rw [e]; exact congrArg some h
            go_simp
            exact hK _ _ (by first | rfl | (show _ = _; simp; done) | (show _ = _; simp; rw [IntKind.wrap_i64]; omega)) trivial (hS.same (by decide) (by decide))
          · intro L vs A' u hW hL0 hnd K' hK
            have hS := hW.wi.s
            have r22 : A'.tmps[22]? = some (iv n0) := by
              obtain ⟨x, e, h⟩ := hW.tel 5 22 (by decide) (hnd 5 (by kernel_rfl)) rfl
              rw [e]; exact congrArg some h
            have r29 : A'.tmps[29]? = some (iv n1) := by
              obtain ⟨x, e, h⟩ := hW.tel 12 29 (by decide) (hnd 12 (by kernel_rfl)) rfl
              rw [e]; exact congrArg some h
            have r43 : A'.tmps[43]? = some (iv ((x16 : Int) * 256 + (x17 : Int))) := by
              obtain ⟨x, e, h⟩ := hW.tel 26 43 (by decide) (hnd 26 (by kernel_rfl)) rfl
              rw [e]; exact congrArg some h
            go_simp
            exact hK _ _ (by first | rfl | (show _ = _; simp)) trivial (hS.same (by decide) (by decide))
          · intro L vs A' u hW hL0 hnd K' hK
            have hS := hW.wi.s
            go_simp
            exact hK _ _ (by rw [hS.pre hL0]; rfl) trivial ⟨hS.only.alloc _, (fun e => by rw [andOne_self] at e; cases e), (fun _ _ => by rw [← hS.pre hL0]; exact Box.new u _ _), (fun e => by
    rw [andOne_ne (by decide)] at e
    exact absurd (hW.closed 29 _ 28 rfl e (by kernel_rfl)) (by rw [hL0]; decide))⟩
          · intro L vs A' u hW hL0 hnd K' hK
            have hS := hW.wi.s
            have r6 : A'.tmps[6]? = some (.pointer (some ⟨g, 0, none⟩)) := by
              obtain ⟨x, e, h⟩ := hW.tel 28 6 (by decide) (hnd 28 (by kernel_rfl)) rfl
              rw [e]; exact congrArg some h
            have r44 : A'.tmps[44]? = some (.agg #[iv n0, iv n1, iv ((x16 : Int) * 256 + (x17 : Int))]) := by
              obtain ⟨x, e, h⟩ := hW.tel 27 44 (by decide) (hnd 27 (by kernel_rfl)) rfl
              rw [e]; exact congrArg some h
            have hL28 := hnd 28 (by kernel_rfl)
            have hBx := hS.mid hL28 hL0
            have c0 := hBx.cell 0
            have c1 := hBx.cell 1
            have c2 := hBx.cell 2
            have z0 := hBx.frozen 0
            have z1 := hBx.frozen 1
            have z2 := hBx.frozen 2
            simp only [List.getElem?_toArray, List.getElem?_cons_zero, List.getElem?_cons_succ] at c0 c1 c2
            go_simp
            exact hK undef _ trivial trivial ⟨((hS.only.setCell (p := ⟨g, 0, none⟩) (.inr (by rw [Hg.out]; exact Nat.le_refl _)) _).setCell (p := ⟨g, 1, none⟩) (.inr (by rw [Hg.out]; exact Nat.le_refl _)) _).setCell (p := ⟨g, 2, none⟩) (.inr (by rw [Hg.out]; exact Nat.le_refl _)) _, (fun e => by rw [andOne_ne (by decide)] at e; rw [hL28] at e; cases e), (fun _ e => by rw [andOne_self] at e; cases e), (fun _ => ((hBx.put 0 _).put 1 _).put 2 _)⟩
        case doneR =>
          intro L vs u9 hS9 hP hall
          have e0 : vs 0 = .slice A bs.length c := hP 0 (by decide)
          have e1 : vs 1 = iv I := hP 1 (by decide)
          have e2 : vs 2 = iv I := hP 2 (by decide)
          have e3 : vs 3 = iv ((I : Int) + 8) := hP 3 (by decide)
          have e4 : vs 4 = .slice A0 8 C0 := hP 4 (by decide)
          have e5 : vs 5 = iv n0 := hP 5 (by decide)
          have e6 : vs 6 = .slice A bs.length c := hP 6 (by decide)
          have e7 : vs 7 = iv I := hP 7 (by decide)
          have e8 : vs 8 = iv ((I : Int) + 8) := hP 8 (by decide)
          have e9 : vs 9 = iv I := hP 9 (by decide)
          have e10 : vs 10 = iv ((I : Int) + 16) := hP 10 (by decide)
          have e11 : vs 11 = .slice A8 8 C8 := hP 11 (by decide)
          have e12 : vs 12 = iv n1 := hP 12 (by decide)
          have e13 : vs 13 = .slice A bs.length c := hP 13 (by decide)
          have e14 : vs 14 = iv I := hP 14 (by decide)
          have e15 : vs 15 = iv ((I : Int) + 16) := hP 15 (by decide)
          have e16 : vs 16 = .pointer (some (ad.add (I + 16))) := hP 16 (by decide)
          have e17 : vs 17 = .int .u8 (x16 : Int) := hP 17 (by decide)
          have e18 : vs 18 = iv x16 := hP 18 (by decide)
          have e19 : vs 19 = iv ((x16 : Int) * 256) := hP 19 (by decide)
          have e20 : vs 20 = .slice A bs.length c := hP 20 (by decide)
          have e21 : vs 21 = iv I := hP 21 (by decide)
          have e22 : vs 22 = iv ((I : Int) + 17) := hP 22 (by decide)
          have e23 : vs 23 = .pointer (some (ad.add (I + 17))) := hP 23 (by decide)
          have e24 : vs 24 = .int .u8 (x17 : Int) := hP 24 (by decide)
          have e25 : vs 25 = iv x17 := hP 25 (by decide)
          have e26 : vs 26 = iv ((x16 : Int) * 256 + (x17 : Int)) := hP 26 (by decide)
          have e27 : vs 27 = .agg #[iv n0, iv n1, iv ((x16 : Int) * 256 + (x17 : Int))] := hP 27 (by decide)
          have e28 : vs 28 = .pointer (some ⟨g, 0, none⟩) := hP 28 (by decide)
          simp only [putV, List.foldl_cons, List.foldl_nil, List.setIfInBounds_toArray, List.set_cons_zero, List.set_cons_succ, e0, e1, e2, e3, e4, e5, e6, e7, e8, e9, e10, e11, e12, e13, e14, e15, e16, e17, e18, e19, e20, e21, e22, e23, e24, e25, e26, e27, e28]
          have hB9 := hS9.fin (hall 29 (by decide))
          have ho9 := hS9.only
          clear hS9
          clear e0 e1 e2 e3 e4 e5 e6 e7 e8 e9 e10 e11 e12 e13 e14 e15 e16 e17 e18 e19 e20 e21 e22 e23 e24 e25 e26 e27 e28 hP hall fr_R
          have HB9 := Lib.hid hB9
          have HO9 := Lib.hid (HO.out.trans ho9)
          have HK9 := Lib.hid ho9
          have q0 := HB9.out.cell 0
          have q1 := HB9.out.cell 1
          have q2 := HB9.out.cell 2
          simp only [List.getElem?_toArray, List.getElem?_cons_zero, List.getElem?_cons_succ] at q0 q1 q2
          clear hB9 ho9
          by_cases b1 : n0 < -1
          · have HZ := Lib.hid (HRj.out u9 (fun h => by have := h.1; simp only at this; have := Hnb0.out.2.1.1 b1; omega) HO9.out)
            clear HMj HTk
            go_wp2
            go_ret2
            exact HZ.out
          by_cases b2 : n1 < 0
          · have HZ := Lib.hid (HRj.out u9 (fun h => by have h3 := h.2.1; simp only at h3; have := Hnb8.out.1.2 h3; omega) HO9.out)
            clear HMj HTk
            go_wp2
            go_ret2
            exact HZ.out
          have e0 : n0 = S0 := Hnb0.out.2.2.1 (by omega)
          have e1 : n1 = S1 := Hnb8.out.2.2.1 (by omega)
          have HMk := Lib.hid (HMj.out ⟨by simp only; omega, by simp only; omega, by simp only; omega, by simp only; omega⟩)
          have HB2 : Hid (Box (u9.alloc (.cells #[iv n0, iv n1, iv ((x16 : Int) * 256 + (x17 : Int))] 70)) u9.heap.size 70 #[iv n0, iv n1, iv ((x16 : Int) * 256 + (x17 : Int))]) := Lib.hid (Box.new u9 _ _)
          rw [← e0, ← e1] at HTk
          have Hz9 := Lib.hid HO9.out.size
          clear HMj HRj e0 e1
          go_wp2_with (at_builtin; refine app_pt rfl (.tmp 53) (.tmp 55) rfl w.heap.size u4 ((rdT bs).take k) rfl ?own1 u9.heap.size (n0, n1, (x16 : Int) * 256 + (x17 : Int)) rfl HB2.out HLk.out ?base1 ?rest1)
          case own1 => exact owns_only (owns_only HW.out HK9.out (fun _ _ e => e)) ((Only.refl Nix u9).alloc _) (fun _ _ e => e)
          case base1 => have := Hz9.out; simp; omega
          case rest1 =>
            intro v1 w1 r1 g1 m1
            have HR1 : Hid (Own3 w1 w.heap.size v1 ((rdT bs).take (k + 1))) := Lib.hid (by rw [HTk.out]; exact r1)
            have HO1 := Lib.hid ((HO9.out.alloc (.cells #[iv n0, iv n1, iv ((x16 : Int) * 256 + (x17 : Int))] 70)).grown g1 (fun j hj => .inr (World.ownsRow.lt HW.out j hj).1))
            clear r1 g1 m1
            go_wp2
            go_roundw
            case rel => exact ⟨k + 1, hlt, by rw [HIn.out]; go_num, HMk.out, HR1.out, HO1.out⟩
            case measure => simp [intOf]; omega
      · obtain rfl : k = bs.length / 18 := by omega
        have hge : ¬ ((18 * (bs.length / 18) : Nat) : Int) < (bs.length : Int) := by have := H18.out; omega
        have HT := Lib.hid (HEnd.out u4 wr HM.out HW.out)
        have HOr := Lib.hid (HOd.out wr u4 HT.out)
        have hm := HM.out
        rw [← Hrl.out] at hm
        have hiff := orR_ordN hm
        obtain ⟨Z, hZ⟩ : ∃ z, ((18 * (bs.length / 18) : Nat) : Int) = z := ⟨_, rfl⟩
        rw [hZ] at hge ⊢
        clear HW HNum HRb hZ
        by_cases hr : orR (rdT bs) (rdT bs).length
        · have he : psE bs = 0 := by rw [Hps.out]; unfold orE; rw [if_pos hm, if_pos (hiff.1 hr)]
          have HZ : Hid (∀ w', Only Nix wr w' → PsR w bs (.returned (.tuple #[u4, iv 0])) w') := Lib.hid (fun w' ho => ⟨u4, by rw [he], by unfold psL; rw [he, if_pos rfl]; exact HT.out.nix ho, HO.out.trans ho⟩)
          rw [decide_eq_true hr] at HOr
          clear hiff hr he hm
          go_wp2_with fail
          refine (HOr.out).mono ?_
          rintro e w9 ⟨rfl, o9⟩
          have HZ9 := Lib.hid (HZ.out w9 o9)
          clear o9
          go_wp2
          go_ret2
          exact HZ9.out
        · have he : psE bs = 18 := by rw [Hps.out]; unfold orE; rw [if_pos hm, if_neg (fun h => hr (hiff.2 h))]
          have HZ : Hid (∀ w', Only Nix wr w' → PsR w bs (.returned (.tuple #[.slice none 0 0, iv 18])) w') := Lib.hid (fun w' ho => ⟨_, by rw [he], by unfold psL; rw [he, if_neg (by decide)]; exact TSrc.nil _, HO.out.trans ho⟩)
          rw [decide_eq_false hr] at HOr
          clear hiff hr he hm
          go_wp2_with fail
          refine (HOr.out).mono ?_
          rintro e w9 ⟨rfl, o9⟩
          have HZ9 := Lib.hid (HZ.out w9 o9)
          clear o9
          go_wp2
          go_ret2
          exact HZ9.out
  · have hps : psE bs = 12 := if_neg h18
    have HR : Hid (PsR w bs (.returned (.tuple #[.slice none 0 0, iv 12])) w) := Lib.hid ⟨_, by rw [hps], by unfold psL; rw [hps, if_neg (by decide)]; exact TSrc.nil _, Only.refl _ _⟩
    have hmod : ((bs.length : Int) % 18 != 0) = true := by simp; omega
    clear hps h18
    go_enter Try.func21, Try.ntmps21
    go_wp2
    go_ret2
    exact HR.out
end Go.Proofs.Ytighdjbeddcckaa
