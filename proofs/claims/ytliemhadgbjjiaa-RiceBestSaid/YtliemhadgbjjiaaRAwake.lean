/-
  Write that is refused; the chapter's example.
-/
import Derived.Test.YtliemhadgbjjiaaRLaw
namespace Go.Proofs.Ytliemhadgbjjiaa
open Go.RowKit Go.Shelf
attribute [local go_sem] Oper.semAt_some

set_option maxRecDepth 100000 in
set_option maxHeartbeats 2000000 in
theorem write_err {w : World} (b : Nat) (m o s E : Int) (n c : Nat) (A Ap Ab : Option Addr) (np nb cp cb : Nat) (ps bs l : List Int) (hs0 : -9223372036854775808 ≤ s) (hs1 : s ≤ 4611686018427387904)
    (hl : ISrc w (.slice A n c) l) (hps : ISrc w (.slice Ap np cp) ps) (hbs : ISrc w (.slice Ab nb cb) bs) (hE : sizeE m o ps bs s l = E) (hE0 : E ≠ 0) :
    Calls Try.prog 14 #[.pointer (some ⟨b, 0, none⟩), planV m o (.slice Ap np cp) (.slice Ab nb cb), iv s, .slice A n c] w fun e w' => e = .returned (iv E) ∧ Only Nix w w' := by
  have a0 := ((Only.refl Nix w).alloc (.cells #[.pointer (some ⟨b, 0, none⟩)] 27)).alloc (.cells #[iv m, iv o, .slice Ap np cp, .slice Ab nb cb] 24)
  have HSz := Lib.hid (sizeR_any m o s n c A Ap Ab np nb cp cb ps bs l hs0 hs1 (hl.nix a0) (hps.nix a0) (hbs.nix a0))
  rw [hE] at HSz
  generalize sizeN m o ps bs s l = SN at HSz
  have hEb : (E != 0) = true := by simpa using hE0
  have HA := Lib.hid a0
  clear hl hps hbs a0 hE
  refine (callsIn_wide (n := 4)).1 ?_
  refine callsIn_of_wp_marks Try.func14 rfl trivial ?_ rfl
  simp only [Try.ntmps14, List.size_toArray, List.length_cons, List.length_nil, Nat.reduceAdd, Nat.reduceSub, Array.replicate_succ, Array.replicate_zero, List.push_toArray, List.append_toArray, List.nil_append, List.cons_append]
  gi_wp2_with fail
  refine ⟨trivial, (callsIn_wide.2 HSz.out).mono ?_⟩
  rintro e w1 ⟨rfl, o1⟩
  gi_wp2
  exact ⟨_, results_tmp rfl _ _ _, rfl, HA.out.trans o1⟩

set_option maxRecDepth 100000 in
set_option maxHeartbeats 2000000 in
theorem write_nil {w : World} (m o s : Int) (n c : Nat) (A Ap Ab : Option Addr) (np nb cp cb : Nat) :
    Calls Try.prog 14 #[.pointer none, planV m o (.slice Ap np cp) (.slice Ab nb cb), iv s, .slice A n c] w fun e w' => e = .returned (iv 2) ∧ Only Nix w w' := by
  have HA := Lib.hid (((Only.refl Nix w).alloc (.cells #[.pointer none] 27)).alloc (.cells #[iv m, iv o, .slice Ap np cp, .slice Ab nb cb] 24))
  refine (callsIn_wide (n := 4)).1 ?_
  refine callsIn_of_wp_marks Try.func14 rfl trivial ?_ rfl
  simp only [Try.ntmps14, List.size_toArray, List.length_cons, List.length_nil, Nat.reduceAdd, Nat.reduceSub, Array.replicate_succ, Array.replicate_zero, List.push_toArray, List.append_toArray, List.nil_append, List.cons_append]
  gi_wp2
  exact ⟨_, results_tmp rfl _ _ _, rfl, HA.out⟩

/-- the chapter's example -/
def exL : List Int := [0, -1, 1, 5]
theorem ex_fine : Fine 0 0 0 1 4 [1] [0] exL := by
  refine ⟨by decide, by decide, by decide, by decide, by decide, by decide, by decide, by decide, by decide, ?_, by decide, ?_⟩
  · intro i hi _
    obtain rfl : i = 0 := by simp at hi; omega
    show isP 0 1 0
    decide
  · intro k hk
    obtain rfl : k = 0 := by omega
    decide
theorem ex_bits : blockB 4 0 1 0 0 [1] [0] exL = [0, 0, 0, 0, 0, 0, 0, 0, 0, 1, 1, 0, 1, 1, 0, 1, 0, 0, 0, 0, 0, 0, 1, 0] := by decide
theorem ex_size : sizeN 0 0 [1] [0] 0 exL = 24 := by
  have h : sizeE 0 0 [1] [0] 0 exL = 0 := ex_fine.sizeE
  unfold sizeN
  rw [if_pos h]
  decide
theorem ex_packs : Packs [0, 109, 2] (blockB 4 0 1 0 0 [1] [0] exL) := by
  rw [ex_bits]
  exact ⟨by decide, by decide, by decide, by decide⟩
theorem isrc_lit (w : World) (xs : List Int) (hn : xs.length ≤ 100) (hf : ∀ x ∈ xs, -9223372036854775808 ≤ x ∧ x ≤ 9223372036854775807) : ISrc (w.alloc (.cells (xs.map iv).toArray 3)) (.slice (some ⟨w.heap.size, 0, none⟩) xs.length xs.length) xs :=
  ISrc.of_box (Box.new w 3 (xs.map iv).toArray) rfl (Nat.le_refl _) (by omega) hf

set_option maxHeartbeats 2000000 in
theorem awake5 (w : World) : Calls Try.prog 9 #[] w fun e w' => e = .returned (.bool true) ∧ Only Nix w w' := by
  have p1 := isrc_lit w [1] (by decide) (by decide)
  have p2 := isrc_lit (w.alloc (.cells #[iv 1] 3)) [0] (by decide) (by decide)
  rw [World.size_alloc] at p2
  obtain ⟨Wa, hWa⟩ : ∃ Wa, ((w.alloc (.cells #[iv 1] 3)).alloc (.cells #[iv 0] 3)).alloc (.cells #[iv 0, iv 0, .slice (some ⟨w.heap.size, 0, none⟩) 1 1, .slice (some ⟨w.heap.size + 1, 0, none⟩) 1 1] 24) = Wa := ⟨_, rfl⟩
  have B1 := Box.new ((w.alloc (.cells #[iv 1] 3)).alloc (.cells #[iv 0] 3)) 24 #[iv 0, iv 0, .slice (some ⟨w.heap.size, 0, none⟩) 1 1, .slice (some ⟨w.heap.size + 1, 0, none⟩) 1 1]
  rw [World.size_alloc, World.size_alloc] at B1
  have q1 := p1.nix (((Only.refl Nix _).alloc (.cells #[iv 0] 3)).alloc (.cells #[iv 0, iv 0, .slice (some ⟨w.heap.size, 0, none⟩) 1 1, .slice (some ⟨w.heap.size + 1, 0, none⟩) 1 1] 24))
  have q2 := p2.nix ((Only.refl Nix _).alloc (.cells #[iv 0, iv 0, .slice (some ⟨w.heap.size, 0, none⟩) 1 1, .slice (some ⟨w.heap.size + 1, 0, none⟩) 1 1] 24))
  have oA := (((Only.refl Nix w).alloc (.cells #[iv 1] 3)).alloc (.cells #[iv 0] 3)).alloc (.cells #[iv 0, iv 0, .slice (some ⟨w.heap.size, 0, none⟩) 1 1, .slice (some ⟨w.heap.size + 1, 0, none⟩) 1 1] 24)
  have hszA : (((w.alloc (.cells #[iv 1] 3)).alloc (.cells #[iv 0] 3)).alloc (.cells #[iv 0, iv 0, .slice (some ⟨w.heap.size, 0, none⟩) 1 1, .slice (some ⟨w.heap.size + 1, 0, none⟩) 1 1] 24)).heap.size = w.heap.size + 3 := by simp
  simp only [List.map_cons, List.map_nil, List.length_cons, List.length_nil, Nat.zero_add] at q1 q2
  rw [hWa] at B1 q1 q2 oA hszA
  have Q1 := Lib.hid q1
  have Q2 := Lib.hid q2
  have HB := Lib.hid B1
  have HA := Lib.hid oA
  have HNW := Lib.hid (newWriter_any Wa)
  rw [hszA] at HNW
  clear p1 p2 q1 q2 B1 oA
  go_enter Try.func9, Try.ntmps9
  go_wp2_with fail
  refine (HNW.out).mono ?_
  rintro e w1 ⟨rfl, hW1, ho1⟩
  have l1 := isrc_lit w1 exL (by decide) (by decide)
  simp only [exL, List.map_cons, List.map_nil, List.length_cons, List.length_nil, Nat.zero_add, Nat.reduceAdd] at l1
  have o2 := (Only.refl Nix w1).alloc (.cells #[iv 0, iv (-1), iv 1, iv 5] 3)
  have HSz := Lib.hid (sizeR_any 0 0 0 4 4 (some ⟨w1.heap.size, 0, none⟩) (some ⟨w.heap.size, 0, none⟩) (some ⟨w.heap.size + 1, 0, none⟩) 1 1 1 1 [1] [0] exL (by decide) (by decide) l1 ((Q1.out.nix ho1).nix o2) ((Q2.out.nix ho1).nix o2))
  rw [ex_size, show sizeE 0 0 [1] [0] 0 exL = 0 from ex_fine.sizeE] at HSz
  have B1 := HB.out.only ho1 (fun e => e)
  have d0 := B1.cell 0
  have d1 := B1.cell 1
  have d2 := B1.cell 2
  have d3 := B1.cell 3
  simp only [List.getElem?_toArray, List.getElem?_cons_zero, List.getElem?_cons_succ] at d0 d1 d2 d3
  have H12 := Lib.hid ho1
  have H1W := Lib.hid hW1
  have HB1 := Lib.hid B1
  have HO2 := Lib.hid o2
  clear l1 o2 ho1 hW1 B1
  go_wp2_with fail
  refine (HSz.out).mono ?_
  rintro e w3 ⟨rfl, ho3⟩
  have oW3 := Lib.hid (HO2.out.trans ho3)
  have l3 := isrc_lit w3 exL (by decide) (by decide)
  simp only [exL, List.map_cons, List.map_nil, List.length_cons, List.length_nil, Nat.zero_add, Nat.reduceAdd] at l3
  have o4 := (Only.refl Nix w3).alloc (.cells #[iv 0, iv (-1), iv 1, iv 5] 3)
  have oW4 := Lib.hid (oW3.out.trans o4)
  have hw3s := oW3.out.size
  have hwbl := H1W.out.box.lt
  have HWr := Lib.hid (write_ok (H1W.out.nix oW4.out) 0 0 0 1 4 4 4 exL (some ⟨w3.heap.size, 0, none⟩) (some ⟨w.heap.size, 0, none⟩) (some ⟨w.heap.size + 1, 0, none⟩) 1 1 1 1 [1] [0] ex_fine l3 ((Q1.out.nix H12.out).nix oW4.out) ((Q2.out.nix H12.out).nix oW4.out)
    (fun ad n c e _ => by injection e with e1 _ _; injection e1 with e1; subst e1; exact ⟨by show w3.heap.size ≠ w.heap.size + 3; omega, by simp [Value.ownBlock]⟩)
    (fun ad n c e _ => by injection e with e1 _ _; injection e1 with e1; subst e1; exact ⟨by show w.heap.size ≠ w.heap.size + 3; omega, by simp [Value.ownBlock]⟩)
    (fun ad n c e _ => by injection e with e1 _ _; injection e1 with e1; subst e1; exact ⟨by show w.heap.size + 1 ≠ w.heap.size + 3; omega, by simp [Value.ownBlock]⟩) (by decide))
  rw [List.nil_append] at HWr
  have B3 := HB1.out.only oW3.out (fun e => e)
  have e0 := B3.cell 0
  have e1 := B3.cell 1
  have e2 := B3.cell 2
  have e3 := B3.cell 3
  simp only [List.getElem?_toArray, List.getElem?_cons_zero, List.getElem?_cons_succ] at e0 e1 e2 e3
  clear l3 o4 ho3 B3 HSz
  go_wp2_with fail
  refine (HWr.out).mono ?_
  rintro e w5 ⟨rfl, v5, bs5, hW5, ho5, hm5⟩
  have hbs : bs5 = [0, 109, 2] := hW5.packs.inj ex_packs
  subst hbs
  have HLn := Lib.hid (len_any hW5)
  rw [ex_bits] at HLn
  have HBy := Lib.hid (bytes_any hW5)
  have o5 : Only Nix w w5 := ((HA.out.trans H12.out).trans oW4.out).then ho5 (fun i e => by
    rcases e with e | e
    · exact .inr (by omega)
    · simp [Value.ownBlock] at e)
  have HO5 := Lib.hid o5
  clear hW5 ho5 hm5 HWr
  go_wp2_with fail
  refine (HLn.out).mono ?_
  rintro e w6 ⟨rfl, rfl⟩
  go_wp2_with fail
  refine (HBy.out).mono ?_
  rintro e w6 ⟨v6, rfl, hown, ho6⟩
  have S6 := Src.of_owns hown (by simp)
  obtain ⟨A6, c6, hv6⟩ := S6.slice
  subst hv6
  have o7 := (Only.refl Nix w6).alloc (.cells #[.int .u8 0, .int .u8 109, .int .u8 2] 5)
  have S7 : Src (w6.alloc (.cells #[.int .u8 0, .int .u8 109, .int .u8 2] 5)) (.slice (some ⟨w6.heap.size, 0, none⟩) 3 3) [0, 109, 2] :=
    Src.of_owns (World.ownsRow_lit (base := 0) (size := 1) w6 #[.int .u8 0, .int .u8 109, .int .u8 2] 3 (Nat.zero_le _) (by unfold maxLen; omega) rfl) (by simp)
  have HEq := Lib.hid (same_yes (S6.nix o7) S7)
  have HO7 := Lib.hid ((HO5.out.trans ho6).trans o7)
  clear S6 S7 o7 hown ho6 HBy HLn
  simp only [List.length_cons, List.length_nil, Nat.zero_add, Nat.reduceAdd] at HEq
  go_wp2_with fail
  refine (HEq.out).mono ?_
  rintro e w8 ⟨rfl, q, rfl⟩
  go_wp2
  go_ret
  exact ⟨rfl, HO7.out.drewN q⟩
end Go.Proofs.Ytliemhadgbjjiaa
