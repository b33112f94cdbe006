/-
  RiceWrites, walked.
-/
import Derived.Test.YtliemhadgbjjiaaQBits5
import Derived.Deep.RegionHeld3
namespace Go.Proofs.Ytliemhadgbjjiaa
open Go.RowKit Go.Joins

set_option maxRecDepth 100000 in
set_option maxHeartbeats 4000000 in
theorem riceWrites_walk {w : World} (m o s : Int) (A Ap Ab : Option Addr) (n np nb c cp cb : Nat) (ps bs l : List Int) (hs0 : -9223372036854775808 ≤ s) (hs1 : s ≤ 9223372036854775807)
    (hl : ISrc w (.slice A n c) l) (hps : ISrc w (.slice Ap np cp) ps) (hbs : ISrc w (.slice Ab nb cb) bs) :
    Calls Try.prog 3 #[planV m o (.slice Ap np cp) (.slice Ab nb cb), iv s, .slice A n c] w fun e w' => e = .returned (.bool true) ∧ Only Nix w w' := by
  have hn := hl.len
  have sz1 := hl.small
  rw [← hn] at sz1
  obtain ⟨Wa, hWa⟩ : ∃ Wa, w.alloc (.cells #[iv m, iv o, .slice Ap np cp, .slice Ab nb cb] 24) = Wa := ⟨_, rfl⟩
  have a0 := (Only.refl Nix w).alloc (.cells #[iv m, iv o, .slice Ap np cp, .slice Ab nb cb] 24)
  have B0 := Box.new w 24 #[iv m, iv o, .slice Ap np cp, .slice Ab nb cb]
  have hszA : Wa.heap.size = w.heap.size + 1 := by rw [← hWa]; simp
  rw [hWa] at a0 B0
  have HL := Lib.hid (hl.nix a0)
  have HPS := Lib.hid (hps.nix a0)
  have HBS := Lib.hid (hbs.nix a0)
  have HA := Lib.hid a0
  have HB0 := Lib.hid B0
  have d0 := B0.cell 0
  have d1 := B0.cell 1
  have d2 := B0.cell 2
  have d3 := B0.cell 3
  simp only [List.getElem?_toArray, List.getElem?_cons_zero, List.getElem?_cons_succ] at d0 d1 d2 d3
  have HFew := Lib.hid (few_any m o A Ap Ab n np nb c cp cb ps bs l HL.out HPS.out HBS.out)
  have Hn := Lib.hid hn
  clear hl hps hbs hn a0 B0
  go_enter Try.func3, Try.ntmps3
  go_wp2_with fail
  refine (HFew.out).mono ?_
  rintro e w1 ⟨rr, rfl, hfew, o1⟩
  have HO1 := Lib.hid o1
  have HAw := Lib.hid (awake5 w1)
  clear d0 d1 d2 d3 HFew
  cases rr with
  | false =>
    clear hfew
    go_wp2_with fail
    refine (HAw.out).mono ?_
    rintro e w2 ⟨rfl, o2⟩
    go_wp2
    go_ret
    exact ⟨rfl, HA.out.trans (HO1.out.trans o2)⟩
  | true =>
    obtain ⟨hn200, hp300, _⟩ := hfew rfl
    clear hfew
    by_cases hs7 : 70000 < s
    · go_wp2_with fail
      refine (HAw.out).mono ?_
      rintro e w2 ⟨rfl, o2⟩
      go_wp2
      go_ret
      exact ⟨rfl, HA.out.trans (HO1.out.trans o2)⟩
    · have HNW := Lib.hid (newWriter_any w1)
      clear HAw
      go_wp2_with fail
      refine (HNW.out).mono ?_
      rintro e w2 ⟨rfl, hW2, o2⟩
      obtain ⟨b, hb⟩ : ∃ b, w1.heap.size = b := ⟨_, rfl⟩
      have hbw : w.heap.size + 1 ≤ b := by have := o1.size; omega
      rw [hb] at hW2 ⊢
      have HO2 := Lib.hid (o1.trans o2)
      have HW2 := Lib.hid hW2
      have HPl := Lib.hid (plain_any w2 m o Ap Ab np cp nb cb)
      have D2 := HB0.out.only HO2.out (fun e => e)
      have h20 := D2.cell 0
      have h21 := D2.cell 1
      have h22 := D2.cell 2
      have h23 := D2.cell 3
      simp only [List.getElem?_toArray, List.getElem?_cons_zero, List.getElem?_cons_succ] at h20 h21 h22 h23
      clear D2
      clear hW2 o2 hb HNW o1
      go_wp2_with fail
      refine (HPl.out).mono ?_
      rintro e w3 ⟨rfl, o3⟩
      have HO3 := Lib.hid o3
      have HA3 := Lib.hid (HO2.out.trans o3)
      have HBi := Lib.hid (bitsRef5_any m o s A Ap Ab n np nb c cp cb ps bs l hs0 (by omega) (HL.out.nix HA3.out) (HPS.out.nix HA3.out) (HBS.out.nix HA3.out) hn200 hp300)
      clear HPl o3 h20 h21 h22 h23
      go_wp2_with fail
      refine (HBi.out).mono ?_
      rintro e w4 ⟨v4, rfl, o4, hr4, hl4⟩
      have hszN : (outL m o ps bs s l).length = sizeN m o ps bs s l := outL_len m o ps bs s l
      have HA4 := Lib.hid (HA3.out.trans o4)
      have HW4 := Lib.hid (HW2.out.nix (HO3.out.trans o4))
      have HSz := Lib.hid (sizeR_any m o s n c A Ap Ab np nb cp cb ps bs l hs0 (by omega) (HL.out.nix HA4.out) (HPS.out.nix HA4.out) (HBS.out.nix HA4.out))
      rw [← hszN] at HSz
      have HWr := fun u (hu : Only Nix w4 u) => Lib.hid (write_any (HW4.out.nix hu) m o s n c A Ap Ab np nb cp cb ps bs l hs0 (by omega) (HL.out.nix (HA4.out.trans hu)) (HPS.out.nix (HA4.out.trans hu)) (HBS.out.nix (HA4.out.trans hu)) (apart_new HL.out (by omega)) (apart_new HPS.out (by omega)) (apart_new HBS.out (by omega)))
      have HCR := fun u (hu : Only Nix Wa u) => Lib.hid (checkRef_any (w := u) m o ((n : Int) + s) s Ap Ab np nb cp cb ps bs (HPS.out.nix hu) (HBS.out.nix hu))
      have HCk := fun u (hu : Only Nix Wa u) => Lib.hid (check_any (w := u) m o ((n : Int) + s) s Ap Ab np nb cp cb ps bs (HPS.out.nix hu) (HBS.out.nix hu))
      generalize hBBe : outL m o ps bs s l = BB at *
      generalize sizeE m o ps bs s l = E at *
      generalize ckC m o ps bs ((n : Int) + s) s = CC at *
      have HR4 := Lib.hid hr4
      obtain ⟨A4, c4, hv4⟩ := owns_slice hr4
      subst hv4
      clear hszN hr4 hBBe HBi
      have D4 := HB0.out.only HA4.out (fun e => e)
      have h40 := D4.cell 0
      have h41 := D4.cell 1
      have h42 := D4.cell 2
      have h43 := D4.cell 3
      simp only [List.getElem?_toArray, List.getElem?_cons_zero, List.getElem?_cons_succ] at h40 h41 h42 h43
      clear D4
      go_wp2_with fail
      refine (HSz.out).mono ?_
      rintro e w5 ⟨rfl, o5⟩
      have HO5 := Lib.hid o5
      have HA5 := Lib.hid (HA4.out.trans o5)
      have HWr5 := HWr w5 o5
      have D5 := HB0.out.only HA5.out (fun e => e)
      have h50 := D5.cell 0
      have h51 := D5.cell 1
      have h52 := D5.cell 2
      have h53 := D5.cell 3
      simp only [List.getElem?_toArray, List.getElem?_cons_zero, List.getElem?_cons_succ] at h50 h51 h52 h53
      clear D5
      clear HSz o5 h40 h41 h42 h43 HWr
      go_wp2_with fail
      refine (HWr5.out).mono ?_
      rintro e w6 ⟨rfl, v6, bs6, hW6, o6, hm6⟩
      have oA6 : Only Nix Wa w6 := HA5.out.then o6 (fun i e => by
        rcases e with e | e
        · exact .inr (by omega)
        · simp [Value.ownBlock] at e)
      have HA6 := Lib.hid oA6
      have HW6 := Lib.hid hW6
      have hr6 : Bitrow w6 w3.heap.size (.slice A4 BB.length c4) BB := owns_only (owns_only HR4.out HO5.out (fun _ _ e => e)) o6 (fun g hg e => by
        have h1 := (HR4.out.lt g hg).1
        have h2 := HW2.out.box.lt
        have h3 := HO3.out.size
        rcases e with e | e
        · omega
        · simp [Value.ownBlock] at e)
      have HR6 := Lib.hid hr6
      have D6 := HB0.out.only HA6.out (fun e => e)
      have h60 := D6.cell 0
      have h61 := D6.cell 1
      have h62 := D6.cell 2
      have h63 := D6.cell 3
      simp only [List.getElem?_toArray, List.getElem?_cons_zero, List.getElem?_cons_succ] at h60 h61 h62 h63
      clear D6
      have HC6 : Hid (∀ u, Only Nix w6 u → (Only Nix w6 u ∧ u.cell? ⟨w.heap.size, 0, none⟩ = some (iv m) ∧ u.cell? ⟨w.heap.size, 1, none⟩ = some (iv o) ∧ u.cell? ⟨w.heap.size, 2, none⟩ = some (.slice Ap np cp) ∧ u.cell? ⟨w.heap.size, 3, none⟩ = some (.slice Ab nb cb))) := Lib.hid (fun u o => ⟨o, cell_keep o h60, cell_keep o h61, cell_keep o h62, cell_keep o h63⟩)
      have t15 : ∀ u, (Only Nix w6 u ∧ u.cell? ⟨w.heap.size, 0, none⟩ = some (iv m) ∧ u.cell? ⟨w.heap.size, 1, none⟩ = some (iv o) ∧ u.cell? ⟨w.heap.size, 2, none⟩ = some (.slice Ap np cp) ∧ u.cell? ⟨w.heap.size, 3, none⟩ = some (.slice Ab nb cb)) → Calls Try.prog 15 #[(.agg #[iv m, iv o, .slice Ap np cp, .slice Ab nb cb]), .int .i64 ((n : Int) + s), iv s] u fun e w' => e = .returned (iv CC) ∧ (Only Nix w6 w' ∧ w'.cell? ⟨w.heap.size, 0, none⟩ = some (iv m) ∧ w'.cell? ⟨w.heap.size, 1, none⟩ = some (iv o) ∧ w'.cell? ⟨w.heap.size, 2, none⟩ = some (.slice Ap np cp) ∧ w'.cell? ⟨w.heap.size, 3, none⟩ = some (.slice Ab nb cb)) := fun u hu =>
        ((HCk u (HA6.out.trans hu.1)).out).mono fun e w' h => ⟨h.1, HC6.out _ (hu.1.trans h.2)⟩
      have t16 : ∀ u, (Only Nix w6 u ∧ u.cell? ⟨w.heap.size, 0, none⟩ = some (iv m) ∧ u.cell? ⟨w.heap.size, 1, none⟩ = some (iv o) ∧ u.cell? ⟨w.heap.size, 2, none⟩ = some (.slice Ap np cp) ∧ u.cell? ⟨w.heap.size, 3, none⟩ = some (.slice Ab nb cb)) → Calls Try.prog 16 #[(.agg #[iv m, iv o, .slice Ap np cp, .slice Ab nb cb]), .int .i64 ((n : Int) + s), iv s] u fun e w' => e = .returned (iv CC) ∧ (Only Nix w6 w' ∧ w'.cell? ⟨w.heap.size, 0, none⟩ = some (iv m) ∧ w'.cell? ⟨w.heap.size, 1, none⟩ = some (iv o) ∧ w'.cell? ⟨w.heap.size, 2, none⟩ = some (.slice Ap np cp) ∧ w'.cell? ⟨w.heap.size, 3, none⟩ = some (.slice Ab nb cb)) := fun u hu =>
        ((HCR u (HA6.out.trans hu.1)).out).mono fun e w' h => ⟨h.1, HC6.out _ (hu.1.trans h.2)⟩
      have t12 : ∀ u, (Only Nix w6 u ∧ u.cell? ⟨w.heap.size, 0, none⟩ = some (iv m) ∧ u.cell? ⟨w.heap.size, 1, none⟩ = some (iv o) ∧ u.cell? ⟨w.heap.size, 2, none⟩ = some (.slice Ap np cp) ∧ u.cell? ⟨w.heap.size, 3, none⟩ = some (.slice Ab nb cb)) → Calls Try.prog 12 #[(.agg #[iv m, iv o, .slice Ap np cp, .slice Ab nb cb])] u fun e w' => e = .returned (.agg #[iv m, iv o, .slice Ap np cp, .slice Ab nb cb]) ∧ (Only Nix w6 w' ∧ w'.cell? ⟨w.heap.size, 0, none⟩ = some (iv m) ∧ w'.cell? ⟨w.heap.size, 1, none⟩ = some (iv o) ∧ w'.cell? ⟨w.heap.size, 2, none⟩ = some (.slice Ap np cp) ∧ w'.cell? ⟨w.heap.size, 3, none⟩ = some (.slice Ab nb cb)) := fun u hu =>
        (plain_any u m o Ap Ab np cp nb cb).mono fun e w' h => ⟨h.1, HC6.out _ (hu.1.trans h.2)⟩
      have t14 : ∀ u, (Only Nix w6 u ∧ u.cell? ⟨w.heap.size, 0, none⟩ = some (iv m) ∧ u.cell? ⟨w.heap.size, 1, none⟩ = some (iv o) ∧ u.cell? ⟨w.heap.size, 2, none⟩ = some (.slice Ap np cp) ∧ u.cell? ⟨w.heap.size, 3, none⟩ = some (.slice Ab nb cb)) → Calls Try.prog 14 #[.pointer none, (.agg #[iv m, iv o, .slice Ap np cp, .slice Ab nb cb]), iv s, .slice A n c] u fun e w' => e = .returned (iv 2) ∧ (Only Nix w6 w' ∧ w'.cell? ⟨w.heap.size, 0, none⟩ = some (iv m) ∧ w'.cell? ⟨w.heap.size, 1, none⟩ = some (iv o) ∧ w'.cell? ⟨w.heap.size, 2, none⟩ = some (.slice Ap np cp) ∧ w'.cell? ⟨w.heap.size, 3, none⟩ = some (.slice Ab nb cb)) := fun u hu =>
        (write_nil (w := u) m o s n c A Ap Ab np nb cp cb).mono fun e w' h => ⟨h.1, HC6.out _ (hu.1.trans h.2)⟩
      clear oA6 hr6 hW6 o6 hm6 HWr5 HCk HCR h50 h51 h52 h53 h60 h61 h62 h63
      have hwr : IntKind.i64.wrap ((n : Int) + s) = (n : Int) + s := by rw [IntKind.wrap_i64]; omega
      go_wp2_with fail
      go_region_held3 (fun u => (Only Nix w6 u ∧ u.cell? ⟨w.heap.size, 0, none⟩ = some (iv m) ∧ u.cell? ⟨w.heap.size, 1, none⟩ = some (iv o) ∧ u.cell? ⟨w.heap.size, 2, none⟩ = some (.slice Ap np cp) ∧ u.cell? ⟨w.heap.size, 3, none⟩ = some (.slice Ab nb cb))) (first | assumption | (refine HC6.out _ ?_; first | exact Only.refl _ _ | exact (Only.refl _ _).drew | assumption)) (first
        | (go_at_call 15; (with_reducible refine (t15 _ (by assumption)).mono ?_); rintro e w7 ⟨rfl, hs7⟩)
        | (go_at_call 12; (with_reducible refine (t12 _ (by assumption)).mono ?_); rintro e w8 ⟨rfl, hs8⟩)
        | (go_at_call 16; (with_reducible refine (t16 _ (by assumption)).mono ?_); rintro e w9 ⟨rfl, hs9⟩)
        | (go_at_call 14; (with_reducible refine (t14 _ (by assumption)).mono ?_); rintro e w10 ⟨rfl, hs10⟩))
      have HO10 := Lib.hid hs10.1
      have HA10 := Lib.hid (HA6.out.trans hs10.1)
      have HW10 := Lib.hid (HW6.out.nix HO10.out)
      have HLn := Lib.hid (len_any HW10.out)
      clear hs7 hs8 hs9 hs10
      clear t15 t16 t12 t14 HC6
      go_wp2_with fail
      refine (HLn.out).mono ?_
      rintro e w11 ⟨rfl, rfl⟩
      have HBy := Lib.hid (bytes_any HW10.out)
      clear HLn
      go_wp2_with fail
      refine (HBy.out).mono ?_
      rintro e w12 ⟨v12, rfl, hr12, o12⟩
      have HA12 := Lib.hid (HA10.out.trans o12)
      have HBr := Lib.hid (bytesRef_any (owns_only HR6.out (HO10.out.trans o12) (fun _ _ e => e)) HW10.out.packs hl4)
      have hpk := HW10.out.packs
      have hb6 : bs6.length ≤ 140737488355328 := by have := hpk.hi; omega
      have HS12 := Lib.hid (Src.of_owns hr12 hb6)
      obtain ⟨A12, c12, hv12⟩ := owns_slice hr12
      subst hv12
      clear HBy o12 hr12 hpk
      go_wp2_with fail
      refine (HBr.out).mono ?_
      rintro e w13 ⟨v13, rfl, hr13, o13⟩
      have HA13 := Lib.hid (HA12.out.trans o13)
      have HSm := Lib.hid (same_yes (HS12.out.nix o13) (Src.of_owns hr13 hb6))
      obtain ⟨A13, c13, hv13⟩ := owns_slice hr13
      subst hv13
      clear HBr o13 hr13 hb6
      go_wp2_with fail
      refine (HSm.out).mono ?_
      rintro e w14 ⟨rfl, k14, rfl⟩
      have HAw := Lib.hid (awake5 (w13.drewN k14))
      have HA14 := Lib.hid (HA13.out.drewN k14)
      clear HSm
      go_wp2_with fail
      refine (HAw.out).mono ?_
      rintro e w15 ⟨rfl, o15⟩
      go_wp2
      go_ret
      exact ⟨rfl, HA.out.trans (HA14.out.trans o15)⟩
end Go.Proofs.Ytliemhadgbjjiaa
