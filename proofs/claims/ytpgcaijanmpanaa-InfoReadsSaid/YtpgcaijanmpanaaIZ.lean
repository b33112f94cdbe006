/-
  The document's infos: Plain, May.
-/
import Derived.Test.YtpgcaijanmpanaaIS
import Derived.Test.YtpgcaijanmpanaaIU
namespace Go.Proofs.Ytpgcaijanmpanaa
open Go.RowKit Go.Shelf

theorem Try.size_ref : (Try.prog.info? 33).map (·.size) = some 24 := by kernel_rfl
theorem Try.size_eight : (Try.prog.info? 31).map (·.size) = some 8 := by kernel_rfl
theorem built_plain (r c d mb xb mf xf t : Int) {s : List Nat} (hs : SumOk s) : Try.prog.built 33 [(0, .agg #[iv r, iv c, iv d, iv mb, iv xb, iv mf, iv xf, iv t]), (1, .agg (s.map byt).toArray)] = some (nfc ⟨r, c, d, mb, xb, mf, xf, t, s⟩) := by
  obtain ⟨a0, a1, a2, a3, a4, a5, a6, a7, a8, a9, a10, a11, a12, a13, a14, a15, rfl⟩ := sumOk_letters hs
  kernel_rfl
theorem built_eight (r c d mb xb mf xf t : Int) : Try.prog.built 31 [(0, iv r), (1, iv c), (2, iv d), (3, iv mb), (4, iv xb), (5, iv mf), (6, iv xf), (7, iv t)] = some #[iv r, iv c, iv d, iv mb, iv xb, iv mf, iv xf, iv t] := by kernel_rfl
/-- a document's info stored, loaded whole -/
theorem wpList_store_ref {w : World} {ops : Array Oper} {rest : List Oper} {o : Oper} {a : Act} {Q : Exit → Act → World → Prop} (hg : o.guard = none) (p x : Operand) (hop : o.op = Op.store 33 p x) (hd : o.dst = none)
    (b : Nat) (i j : Nf) (hp : a.eval p = .pointer (some ⟨b, 0, none⟩)) (hx : a.eval x = .agg (nfc i)) (hB : Box w b 33 (nfc j)) (hi : SumOk i.s) (hj : SumOk j.s)
    (h : ∀ w', Box w' b 33 (nfc i) → Only (Just b) w w' → wpList Try.prog ops Q rest a w') : wpList Try.prog ops Q (o :: rest) a w := by
  refine wpList_plain hg fun K hK => ?_
  obtain ⟨h2, h3⟩ := box_setRow hB (nfc i)
  have hr := run_storeVar_row (P := Try.prog) w b 33 33 (nfc j) (nfc i) hB (by rw [nfc_size hi]; exact Try.size_ref) (by rw [nfc_size hi, nfc_size hj]) (nfc_one i)
  unfold Oper.wp execOp
  simp only [hop, Instr.storeAt, Instr.sureAddr, Sem.run_bind, Sem.run_pure, Result.andThen_ok, hp, hx, hr]
  have := hK (a.put o.dst undef) (w.setRow b (nfc i)) (by rw [hd]; exact h _ h2 h3)
  exact this
theorem wpList_load_ref {w : World} {ops : Array Oper} {rest : List Oper} {o : Oper} {a : Act} {Q : Exit → Act → World → Prop} (hg : o.guard = none) (x : Operand) (ho : o.op = .load 33 x)
    (b : Nat) (i : Nf) (hx : a.eval x = .pointer (some ⟨b, 0, none⟩)) (hB : Box w b 33 (nfc i)) (hi : SumOk i.s)
    (h : wpList Try.prog ops Q rest (a.put o.dst (.agg (nfc i))) w) : wpList Try.prog ops Q (o :: rest) a w :=
  wpList_load_row hg _ x ho b hx _ _ (0, 0) _ hB Try.underlying33 rfl (by rw [nfc_size hi]; exact Try.size_ref) h
set_option maxRecDepth 100000 in
set_option maxHeartbeats 4000000 in
theorem plain_any {w : World} (i : Nf) (hi : SumOk i.s) : Calls Try.prog 10 #[.agg (nfc i)] w fun e w' => OfR w i e w' := by
  have a1 := (Only.refl Nix w).alloc (.cells (nfc i) 26)
  have b1 := Box.new w 26 (nfc i)
  obtain ⟨W1, hW1⟩ : ∃ W1, w.alloc (.cells (nfc i) 26) = W1 := ⟨_, rfl⟩
  rw [hW1] at a1 b1
  have a2 := a1.alloc (.cells zC 33)
  have b1' := b1.alloc (.cells zC 33)
  have b2 := Box.new W1 33 zC
  have hle : w.heap.size ≤ W1.heap.size := a1.size
  obtain ⟨W2, hW2⟩ : ∃ W2, W1.alloc (.cells zC 33) = W2 := ⟨_, rfl⟩
  rw [hW2] at a2 b1' b2
  have q0 := (b1'.cell 0).trans (nfc_0 i)
  have q1 := (b1'.cell 1).trans (nfc_1 i)
  have q2 := (b1'.cell 2).trans (nfc_2 i)
  have q3 := (b1'.cell 3).trans (nfc_3 i)
  have q4 := (b1'.cell 4).trans (nfc_4 i)
  have q5 := (b1'.cell 5).trans (nfc_5 i)
  have q6 := (b1'.cell 6).trans (nfc_6 i)
  have q7 := (b1'.cell 7).trans (nfc_7 i)
  have HB := Lib.hid b1'
  have HR := Lib.hid (show Box W2 W1.heap.size 33 (nfc nf0) from b2)
  have HO := Lib.hid a2
  have HI := Lib.hid hi
  have HB8 := Lib.hid (built_eight i.r i.c i.d i.mb i.xb i.mf i.xf i.t)
  have HBp := Lib.hid (built_plain i.r i.c i.d i.mb i.xb i.mf i.xf i.t hi)
  obtain ⟨S, hS⟩ : ∃ S, (i.s.map byt).toArray = S := ⟨_, rfl⟩
  rw [hS] at HBp
  have HS := Lib.hid hS
  clear a1 b1 a2 b1' b2 hi hS
  go_enter Try.func10, Try.ntmps10
  go_wp2_with (first
    | (refine wpList_load_sum rfl (.tmp 23) rfl w.heap.size i rfl HB.out HI.out ?_; rw [HS.out])
    | (refine wpList_build_is rfl 31 _ rfl #[iv i.r, iv i.c, iv i.d, iv i.mb, iv i.xb, iv i.mf, iv i.xf, iv i.t] ?_ ?_; · (simp; exact HB8.out))
    | (refine wpList_build_is rfl 33 _ rfl (nfc i) ?_ ?_; · (simp; exact HBp.out))
    | (refine wpList_store_ref rfl (.tmp 2) (.tmp 25) rfl rfl W1.heap.size i nf0 rfl rfl HR.out HI.out sum0_ok ?_)
    | fail)
  intro we hBe hoe
  have HCe := Lib.hid hBe
  have HOe := Lib.hid (HO.out.then hoe (fun j e => .inr (by rw [show j = _ from e]; exact hle)))
  clear hBe hoe
  go_wp2
  exact bodyPost_ret (v := .agg (nfc i)) (results_cell_row rfl _ _ W1.heap.size _ _ (0, 0) _ rfl HCe.out Try.underlying33 rfl (by rw [nfc_size HI.out]; exact Try.size_ref)) rfl ⟨rfl, HOe.out⟩
/-- a number of the eight -/
def nth (i : Nf) (k : Nat) : Int := [i.r, i.c, i.d, i.mb, i.xb, i.mf, i.xf, i.t].getD k 0
def lo (i : Nf) (k : Nat) : Int := [1, 1, 4, 16, i.mb, 0, 0, 0].getD k 0
def hiN (k : Nat) : Int := [1048575, 8, 32, 65535, 65535, 16777215, 16777215, 68719476735].getD k 0
theorem nth_cell {w : World} {b : Nat} {i : Nf} {t : TypeId} (h : Box w b t (nfc i)) (k : Nat) (hk : k < 8) : w.cell? ⟨b, k, none⟩ = some (iv (nth i k)) := by
  rw [h.cell]
  rcases (show k = 0 ∨ k = 1 ∨ k = 2 ∨ k = 3 ∨ k = 4 ∨ k = 5 ∨ k = 6 ∨ k = 7 by omega) with rfl | rfl | rfl | rfl | rfl | rfl | rfl | rfl <;> rfl
theorem may_all (i : Nf) : mayI i ↔ (∀ k, k < 8 → lo i k ≤ nth i k ∧ nth i k ≤ hiN k) ∧ (i.mf = 0 ∨ i.xf = 0 ∨ i.mf ≤ i.xf) := by
  constructor
  · rintro ⟨h0, h1, h2, h3, h4, h5, h6, h7, h8⟩
    refine ⟨fun k hk => ?_, h8⟩
    rcases (show k = 0 ∨ k = 1 ∨ k = 2 ∨ k = 3 ∨ k = 4 ∨ k = 5 ∨ k = 6 ∨ k = 7 by omega) with rfl | rfl | rfl | rfl | rfl | rfl | rfl | rfl
    · exact h0
    · exact h1
    · exact h2
    · exact h3
    · exact h4
    · exact h5
    · exact h6
    · exact h7
  · rintro ⟨h, h8⟩
    exact ⟨h 0 (by decide), h 1 (by decide), h 2 (by decide), h 3 (by decide), h 4 (by decide), h 5 (by decide), h 6 (by decide), h 7 (by decide), h8⟩
def MayRel (w : World) (i : Nf) (s5 : Value) (wr : World) : Prop := ∃ k : Nat, k ≤ 8 ∧ s5 = iv k ∧ (∀ j, j < k → lo i j ≤ nth i j ∧ nth i j ≤ hiN j) ∧ Only Nix w wr
set_option maxRecDepth 100000 in
set_option maxHeartbeats 8000000 in
theorem may_any {w : World} (i : Nf) : Calls Try.prog 11 #[.agg (nfc i)] w fun e w' => e = .returned (.bool (decide (mayI i))) ∧ Only Nix w w' := by
  have a1 := (Only.refl Nix w).alloc (.cells (nfc i) 33)
  have b1 := Box.new w 33 (nfc i)
  obtain ⟨W1, hW1⟩ : ∃ W1, w.alloc (.cells (nfc i) 33) = W1 := ⟨_, rfl⟩
  rw [hW1] at a1 b1
  have a2 := a1.alloc (.cells #[iv 1, iv 1, iv 4, iv 16, iv i.mb, iv 0, iv 0, iv 0] 3)
  have b1 := b1.alloc (.cells #[iv 1, iv 1, iv 4, iv 16, iv i.mb, iv 0, iv 0, iv 0] 3)
  have b2 := Box.new W1 3 #[iv 1, iv 1, iv 4, iv 16, iv i.mb, iv 0, iv 0, iv 0]
  have q3 := (b1.cell 3).trans (nfc_3 i)
  have q3' : W1.cell? ⟨w.heap.size, 3, none⟩ = some (iv i.mb) := by rw [← hW1]; exact ((Box.new w 33 (nfc i)).cell 3).trans (nfc_3 i)
  obtain ⟨W2, hW2⟩ : ∃ W2, W1.alloc (.cells #[iv 1, iv 1, iv 4, iv 16, iv i.mb, iv 0, iv 0, iv 0] 3) = W2 := ⟨_, rfl⟩
  rw [hW2] at a2 b1 b2 q3
  have a3 := a2.alloc (.cells #[iv 1048575, iv 8, iv 32, iv 65535, iv 65535, iv 16777215, iv 16777215, iv 68719476735] 3)
  have b1 := b1.alloc (.cells #[iv 1048575, iv 8, iv 32, iv 65535, iv 65535, iv 16777215, iv 16777215, iv 68719476735] 3)
  have b2 := b2.alloc (.cells #[iv 1048575, iv 8, iv 32, iv 65535, iv 65535, iv 16777215, iv 16777215, iv 68719476735] 3)
  have b3 := Box.new W2 3 #[iv 1048575, iv 8, iv 32, iv 65535, iv 65535, iv 16777215, iv 16777215, iv 68719476735]
  obtain ⟨W3, hW3⟩ : ∃ W3, W2.alloc (.cells #[iv 1048575, iv 8, iv 32, iv 65535, iv 65535, iv 16777215, iv 16777215, iv 68719476735] 3) = W3 := ⟨_, rfl⟩
  rw [hW3] at a3 b1 b2 b3
  have HN : Hid (∀ k, k < 8 → W3.cell? ⟨w.heap.size, k, none⟩ = some (iv (nth i k))) := Lib.hid (fun k hk => nth_cell b1 k hk)
  have HL : Hid (∀ k, k < 8 → W3.cell? ⟨W1.heap.size, k, none⟩ = some (iv (lo i k))) := Lib.hid (fun k hk => by
    rw [b2.cell]
    rcases (show k = 0 ∨ k = 1 ∨ k = 2 ∨ k = 3 ∨ k = 4 ∨ k = 5 ∨ k = 6 ∨ k = 7 by omega) with rfl | rfl | rfl | rfl | rfl | rfl | rfl | rfl <;> rfl)
  have HH : Hid (∀ k, k < 8 → W3.cell? ⟨W2.heap.size, k, none⟩ = some (iv (hiN k))) := Lib.hid (fun k hk => by
    rw [b3.cell]
    rcases (show k = 0 ∨ k = 1 ∨ k = 2 ∨ k = 3 ∨ k = 4 ∨ k = 5 ∨ k = 6 ∨ k = 7 by omega) with rfl | rfl | rfl | rfl | rfl | rfl | rfl | rfl <;> rfl)
  have HO := Lib.hid a3
  have HB1 := Lib.hid b1
  obtain ⟨C, hC⟩ : ∃ C, nfc i = C := ⟨_, rfl⟩
  rw [hC] at hW1 ⊢
  obtain ⟨E, hE⟩ : ∃ E, decide (mayI i) = E := ⟨_, rfl⟩
  have HE0 : Hid (∀ k, k < 8 → ¬ (lo i k ≤ nth i k ∧ nth i k ≤ hiN k) → E = false) := Lib.hid (fun k hk h => by rw [← hE]; exact decide_eq_false (fun hm => h (((may_all i).1 hm).1 k hk)))
  have HE1 : Hid ((∀ k, k < 8 → lo i k ≤ nth i k ∧ nth i k ≤ hiN k) → E = ((decide (i.mf = 0) || decide (i.xf = 0)) || decide (i.mf ≤ i.xf))) := Lib.hid (fun h => by
    rw [← hE, Bool.eq_iff_iff, decide_eq_true_iff, may_all]
    simp only [Bool.or_eq_true, decide_eq_true_eq, or_assoc]
    exact ⟨fun hh => hh.2, fun hh => ⟨h, hh⟩⟩)
  rw [hE]
  clear a1 a2 a3 b1 b2 b3 hC hE
  go_enter Try.func11, Try.ntmps11
  go_wp2
  go_loopw [5] (fun s5 wr => MayRel W3 i s5 wr) (fun s5 _ => 8 - (intOf s5).toNat)
  case atStart => exact ⟨0, by decide, rfl, by omega, Only.refl _ _⟩
  case round =>
    obtain ⟨k, hk, rfl, hall, ho⟩ := hrel
    have HAll := Lib.hid hall
    have HOr := Lib.hid ho
    by_cases hlt : k < 8
    · have hlti : (k : Int) < 8 := by omega
      have hx := cell_keep ho (HN.out k hlt)
      have hl := cell_keep ho (HL.out k hlt)
      have hh := cell_keep ho (HH.out k hlt)
      have HX := Lib.hid hx
      have HLk := Lib.hid hl
      have HHk := Lib.hid hh
      have HE0k := Lib.hid (HE0.out k hlt)
      have HAk : Hid (lo i k ≤ nth i k ∧ nth i k ≤ hiN k → ∀ j, j < k + 1 → lo i j ≤ nth i j ∧ nth i j ≤ hiN j) := Lib.hid (fun h j hj => by
        by_cases e : j = k
        · subst e; exact h
        · exact hall j (by omega))
      generalize nth i k = x at *
      generalize lo i k = l at *
      generalize hiN k = h at *
      obtain ⟨a, ha⟩ : ∃ z, decide (x < l) = z := ⟨_, rfl⟩
      obtain ⟨b, hb⟩ : ∃ z, decide (h < x) = z := ⟨_, rfl⟩
      obtain ⟨g, hg⟩ : ∃ z, (a || b) = z := ⟨_, rfl⟩
      have Ha := Lib.hid ha
      have Hb := Lib.hid hb
      have Hg := Lib.hid hg
      clear hx hl hh ho hall ha hb hg
      go_wp2_with fail
      have fr_R : ∀ j s, j < 20 → (([some 15, some 16, some 17, some 18, some 19, some 20, some 21, some 22, some 23, some 24, some 25, some 26, some 27, some 28, some 29, some 30, some 31, some 32, some 33, some 34] : List (Option Nat)).all fun d => d != some s) = true → ([some 15, some 16, some 17, some 18, some 19, some 20, some 21, some 22, some 23, some 24, some 25, some 26, some 27, some 28, some 29, some 30, some 31, some 32, some 33, some 34] : List (Option Nat)).getD j none ≠ some s := by
        intro j s hj ha e
        rw [List.getD_eq_getElem?_getD, List.getElem?_eq_getElem (by exact hj), Option.getD_some] at e
        have := List.all_eq_true.1 ha _ (List.getElem_mem (by exact hj))
        rw [e] at this
        simp at this
      refine region_tel (by kernel_rfl) (fun k0 => ([some 15, some 16, some 17, some 18, some 19, some 20, some 21, some 22, some 23, some 24, some 25, some 26, some 27, some 28, some 29, some 30, some 31, some 32, some 33, some 34] : List (Option Nat)).getD k0 none) (PL [eqP (iv k), eqP (.pointer (some ⟨w.heap.size, 0, none⟩)), eqP (.pointer (some ⟨w.heap.size, k, none⟩)), eqP (iv x), eqP (.slice (some ⟨W1.heap.size, 0, none⟩) 8 8), eqP (iv k), eqP (.pointer (some ⟨W1.heap.size, k, none⟩)), eqP (iv l), eqP (.bool a), eqP (.bool a), eqP (gv (!a) (iv k)), eqP (gv (!a) (.pointer (some ⟨w.heap.size, 0, none⟩))), eqP (gv (!a) (.pointer (some ⟨w.heap.size, k, none⟩))), eqP (gv (!a) (iv x)), eqP (gv (!a) (.slice (some ⟨W2.heap.size, 0, none⟩) 8 8)), eqP (gv (!a) (iv k)), eqP (gv (!a) (.pointer (some ⟨W2.heap.size, k, none⟩))), eqP (gv (!a) (iv h)), eqP (gv (!a) (.bool b)), eqP (.bool g)]) (fun _ _ => True) (fun _ u => Only Nix wr u) 54 20 rfl (by kernel_rfl) (by kernel_rfl) rfl (by kernel_rfl) (by kernel_rfl) (stab_all ⟨fun _ _ _ h _ => h, fun _ _ _ h _ => h, fun _ _ _ h _ => h, fun _ _ _ h _ => h, fun _ _ _ h _ => h, fun _ _ _ h _ => h, fun _ _ _ h _ => h, fun _ _ _ h _ => h, fun _ _ _ h _ => h, fun _ _ _ h _ => h, fun _ _ _ h _ => h, fun _ _ _ h _ => h, fun _ _ _ h _ => h, fun _ _ _ h _ => h, fun _ _ _ h _ => h, fun _ _ _ h _ => h, fun _ _ _ h _ => h, fun _ _ _ h _ => h, fun _ _ _ h _ => h, fun _ _ _ h _ => h, trivial⟩) ((Only.refl _ _).drew) ?stepsR (fun vs => [(15, vs 0), (16, vs 1), (17, vs 2), (18, vs 3), (19, vs 4), (20, vs 5), (21, vs 6), (22, vs 7), (23, vs 8), (24, vs 9), (25, vs 10), (26, vs 11), (27, vs 12), (28, vs 13), (29, vs 14), (30, vs 15), (31, vs 16), (32, vs 17), (33, vs 18), (34, vs 19)]) (fun vs => rfl) ?doneR
      case stepsR =>
        refine ⟨?_, ?_, ?_, ?_, ?_, ?_, ?_, ?_, ?_, ?_, ?_, ?_, ?_, ?_, ?_, ?_, ?_, ?_, ?_, ?_, trivial⟩
        · intro L vs A' u hW hL0 hnd K' hK
          have hS := hW.wi.s
          have r5 : A'.tmps[5]? = some (iv k) := (hW.out 5 (fun j hj => fr_R j 5 hj (by kernel_rfl))).trans rfl
          go_simp
          exact hK _ _ (by first | rfl | (show _ = _; simp)) trivial (hS)
        · intro L vs A' u hW hL0 hnd K' hK
          have hS := hW.wi.s
          have r1 : A'.tmps[1]? = some (.pointer (some ⟨w.heap.size, 0, none⟩)) := (hW.out 1 (fun j hj => fr_R j 1 hj (by kernel_rfl))).trans rfl
          go_simp
          exact hK _ _ (by first | rfl | (show _ = _; simp)) trivial (hS)
        · intro L vs A' u hW hL0 hnd K' hK
          have hS := hW.wi.s
          have r16 : A'.tmps[16]? = some (.pointer (some ⟨w.heap.size, 0, none⟩)) := by
            obtain ⟨x, e, h⟩ := hW.tel 1 16 (by decide) (hnd 1 (by kernel_rfl)) rfl
            rw [e]; exact congrArg some h
          have r15 : A'.tmps[15]? = some (iv k) := by
            obtain ⟨x, e, h⟩ := hW.tel 0 15 (by decide) (hnd 0 (by kernel_rfl)) rfl
            rw [e]; exact congrArg some h
          go_simp
          exact hK _ _ (by first | rfl | (show _ = _; simp)) trivial (hS)
        · intro L vs A' u hW hL0 hnd K' hK
          have hS := hW.wi.s
          have r17 : A'.tmps[17]? = some (.pointer (some ⟨w.heap.size, k, none⟩)) := by
            obtain ⟨x, e, h⟩ := hW.tel 2 17 (by decide) (hnd 2 (by kernel_rfl)) rfl
            rw [e]; exact congrArg some h
          have hc := cell_keep hS HX.out
          go_simp
          exact hK _ _ (by first | rfl | (show _ = _; simp)) trivial (hS)
        · intro L vs A' u hW hL0 hnd K' hK
          have hS := hW.wi.s
          have r3 : A'.tmps[3]? = some (.slice (some ⟨W1.heap.size, 0, none⟩) 8 8) := (hW.out 3 (fun j hj => fr_R j 3 hj (by kernel_rfl))).trans rfl
          go_simp
          exact hK _ _ (by first | rfl | (show _ = _; simp)) trivial (hS)
        · intro L vs A' u hW hL0 hnd K' hK
          have hS := hW.wi.s
          have r5 : A'.tmps[5]? = some (iv k) := (hW.out 5 (fun j hj => fr_R j 5 hj (by kernel_rfl))).trans rfl
          go_simp
          exact hK _ _ (by first | rfl | (show _ = _; simp)) trivial (hS)
        · intro L vs A' u hW hL0 hnd K' hK
          have hS := hW.wi.s
          have r19 : A'.tmps[19]? = some (.slice (some ⟨W1.heap.size, 0, none⟩) 8 8) := by
            obtain ⟨x, e, h⟩ := hW.tel 4 19 (by decide) (hnd 4 (by kernel_rfl)) rfl
            rw [e]; exact congrArg some h
          have r20 : A'.tmps[20]? = some (iv k) := by
            obtain ⟨x, e, h⟩ := hW.tel 5 20 (by decide) (hnd 5 (by kernel_rfl)) rfl
            rw [e]; exact congrArg some h
          go_simp
          exact hK _ _ (by first | rfl | (show _ = _; simp)) trivial (hS)
        · intro L vs A' u hW hL0 hnd K' hK
          have hS := hW.wi.s
          have r21 : A'.tmps[21]? = some (.pointer (some ⟨W1.heap.size, k, none⟩)) := by
            obtain ⟨x, e, h⟩ := hW.tel 6 21 (by decide) (hnd 6 (by kernel_rfl)) rfl
            rw [e]; exact congrArg some h
          have hc := cell_keep hS HLk.out
          go_simp
          exact hK _ _ (by first | rfl | (show _ = _; simp)) trivial (hS)
        · intro L vs A' u hW hL0 hnd K' hK
          have hS := hW.wi.s
          have r18 : A'.tmps[18]? = some (iv x) := by
            obtain ⟨x, e, h⟩ := hW.tel 3 18 (by decide) (hnd 3 (by kernel_rfl)) rfl
            rw [e]; exact congrArg some h
          have r22 : A'.tmps[22]? = some (iv l) := by
            obtain ⟨x, e, h⟩ := hW.tel 7 22 (by decide) (hnd 7 (by kernel_rfl)) rfl
            rw [e]; exact congrArg some h
          go_simp
          exact hK _ _ (by first | rfl | exact congrArg Value.bool Ha.out | (refine congrArg Value.bool (Eq.trans ?_ Ha.out); rw [decide_eq_decide]; omega)) trivial (hS)
        · intro L vs A' u hW hL0 hnd K' hK
          have hS := hW.wi.s
          have r23 : A'.tmps[23]? = some (.bool a) := by
            obtain ⟨x, e, h⟩ := hW.tel 8 23 (by decide) (hnd 8 (by kernel_rfl)) rfl
            rw [e]; exact congrArg some h
          go_simp
          exact hK _ _ (by first | rfl | (show _ = _; simp)) trivial (hS)
        · intro L vs A' u hW hL0 hnd K' hK
          have hS := hW.wi.s
          have r5 : A'.tmps[5]? = some (iv k) := (hW.out 5 (fun j hj => fr_R j 5 hj (by kernel_rfl))).trans rfl
          have r24 : A'.tmps[24]? = some (.bool a) := by
            obtain ⟨x, e, h⟩ := hW.tel 9 24 (by decide) (hnd 9 (by kernel_rfl)) rfl
            rw [e]; exact congrArg some h
          cases a
          all_goals
            first
            | (rw [if_pos (wanted_yes (j := 9) (s := 24) (b := false) rfl (by kernel_rfl) r24)]
               go_simp
               exact hK _ _ (by first | rfl | (show _ = _; simp)) trivial (hS))
            | (rw [if_neg (wanted_no (j := 9) (s := 24) (b := false) rfl (by kernel_rfl) r24)]
               exact hK _ _ rfl trivial (hS))
            | (rw [if_neg (wanted_no2 (j := 9) (s := 24) (b := false) rfl (by kernel_rfl) r24)]
               exact hK _ _ rfl trivial (hS))
        · intro L vs A' u hW hL0 hnd K' hK
          have hS := hW.wi.s
          have r1 : A'.tmps[1]? = some (.pointer (some ⟨w.heap.size, 0, none⟩)) := (hW.out 1 (fun j hj => fr_R j 1 hj (by kernel_rfl))).trans rfl
          have r24 : A'.tmps[24]? = some (.bool a) := by
            obtain ⟨x, e, h⟩ := hW.tel 9 24 (by decide) (hnd 9 (by kernel_rfl)) rfl
            rw [e]; exact congrArg some h
          cases a
          all_goals
            first
            | (rw [if_pos (wanted_yes (j := 9) (s := 24) (b := false) rfl (by kernel_rfl) r24)]
               go_simp
               exact hK _ _ (by first | rfl | (show _ = _; simp)) trivial (hS))
            | (rw [if_neg (wanted_no (j := 9) (s := 24) (b := false) rfl (by kernel_rfl) r24)]
               exact hK _ _ rfl trivial (hS))
            | (rw [if_neg (wanted_no2 (j := 9) (s := 24) (b := false) rfl (by kernel_rfl) r24)]
               exact hK _ _ rfl trivial (hS))
        · intro L vs A' u hW hL0 hnd K' hK
          have hS := hW.wi.s
          have r26 : A'.tmps[26]? = some (gv (!a) (.pointer (some ⟨w.heap.size, 0, none⟩))) := by
            obtain ⟨x, e, h⟩ := hW.tel 11 26 (by decide) (hnd 11 (by kernel_rfl)) rfl
            rw [e]; exact congrArg some h
          have r25 : A'.tmps[25]? = some (gv (!a) (iv k)) := by
            obtain ⟨x, e, h⟩ := hW.tel 10 25 (by decide) (hnd 10 (by kernel_rfl)) rfl
            rw [e]; exact congrArg some h
          have r24 : A'.tmps[24]? = some (.bool a) := by
            obtain ⟨x, e, h⟩ := hW.tel 9 24 (by decide) (hnd 9 (by kernel_rfl)) rfl
            rw [e]; exact congrArg some h
          cases a
          all_goals first | replace r26 := gv_yes r26 rfl | replace r26 := gv_no r26 rfl
          all_goals first | replace r25 := gv_yes r25 rfl | replace r25 := gv_no r25 rfl
          all_goals
            first
            | (rw [if_pos (wanted_yes (j := 9) (s := 24) (b := false) rfl (by kernel_rfl) r24)]
               go_simp
               exact hK _ _ (by first | rfl | (show _ = _; simp)) trivial (hS))
            | (rw [if_neg (wanted_no (j := 9) (s := 24) (b := false) rfl (by kernel_rfl) r24)]
               exact hK _ _ rfl trivial (hS))
            | (rw [if_neg (wanted_no2 (j := 9) (s := 24) (b := false) rfl (by kernel_rfl) r24)]
               exact hK _ _ rfl trivial (hS))
        · intro L vs A' u hW hL0 hnd K' hK
          have hS := hW.wi.s
          have r27 : A'.tmps[27]? = some (gv (!a) (.pointer (some ⟨w.heap.size, k, none⟩))) := by
            obtain ⟨x, e, h⟩ := hW.tel 12 27 (by decide) (hnd 12 (by kernel_rfl)) rfl
            rw [e]; exact congrArg some h
          have r24 : A'.tmps[24]? = some (.bool a) := by
            obtain ⟨x, e, h⟩ := hW.tel 9 24 (by decide) (hnd 9 (by kernel_rfl)) rfl
            rw [e]; exact congrArg some h
          cases a
          all_goals first | replace r27 := gv_yes r27 rfl | replace r27 := gv_no r27 rfl
          all_goals
            first
            | (rw [if_pos (wanted_yes (j := 9) (s := 24) (b := false) rfl (by kernel_rfl) r24)]
               have hc := cell_keep hS HX.out
               go_simp
               exact hK _ _ (by first | rfl | (show _ = _; simp)) trivial (hS))
            | (rw [if_neg (wanted_no (j := 9) (s := 24) (b := false) rfl (by kernel_rfl) r24)]
               exact hK _ _ rfl trivial (hS))
            | (rw [if_neg (wanted_no2 (j := 9) (s := 24) (b := false) rfl (by kernel_rfl) r24)]
               exact hK _ _ rfl trivial (hS))
        · intro L vs A' u hW hL0 hnd K' hK
          have hS := hW.wi.s
          have r4 : A'.tmps[4]? = some (.slice (some ⟨W2.heap.size, 0, none⟩) 8 8) := (hW.out 4 (fun j hj => fr_R j 4 hj (by kernel_rfl))).trans rfl
          have r24 : A'.tmps[24]? = some (.bool a) := by
            obtain ⟨x, e, h⟩ := hW.tel 9 24 (by decide) (hnd 9 (by kernel_rfl)) rfl
            rw [e]; exact congrArg some h
          cases a
          all_goals
            first
            | (rw [if_pos (wanted_yes (j := 9) (s := 24) (b := false) rfl (by kernel_rfl) r24)]
               go_simp
               exact hK _ _ (by first | rfl | (show _ = _; simp)) trivial (hS))
            | (rw [if_neg (wanted_no (j := 9) (s := 24) (b := false) rfl (by kernel_rfl) r24)]
               exact hK _ _ rfl trivial (hS))
            | (rw [if_neg (wanted_no2 (j := 9) (s := 24) (b := false) rfl (by kernel_rfl) r24)]
               exact hK _ _ rfl trivial (hS))
        · intro L vs A' u hW hL0 hnd K' hK
          have hS := hW.wi.s
          have r5 : A'.tmps[5]? = some (iv k) := (hW.out 5 (fun j hj => fr_R j 5 hj (by kernel_rfl))).trans rfl
          have r24 : A'.tmps[24]? = some (.bool a) := by
            obtain ⟨x, e, h⟩ := hW.tel 9 24 (by decide) (hnd 9 (by kernel_rfl)) rfl
            rw [e]; exact congrArg some h
          cases a
          all_goals
            first
            | (rw [if_pos (wanted_yes (j := 9) (s := 24) (b := false) rfl (by kernel_rfl) r24)]
               go_simp
               exact hK _ _ (by first | rfl | (show _ = _; simp)) trivial (hS))
            | (rw [if_neg (wanted_no (j := 9) (s := 24) (b := false) rfl (by kernel_rfl) r24)]
               exact hK _ _ rfl trivial (hS))
            | (rw [if_neg (wanted_no2 (j := 9) (s := 24) (b := false) rfl (by kernel_rfl) r24)]
               exact hK _ _ rfl trivial (hS))
        · intro L vs A' u hW hL0 hnd K' hK
          have hS := hW.wi.s
          have r29 : A'.tmps[29]? = some (gv (!a) (.slice (some ⟨W2.heap.size, 0, none⟩) 8 8)) := by
            obtain ⟨x, e, h⟩ := hW.tel 14 29 (by decide) (hnd 14 (by kernel_rfl)) rfl
            rw [e]; exact congrArg some h
          have r30 : A'.tmps[30]? = some (gv (!a) (iv k)) := by
            obtain ⟨x, e, h⟩ := hW.tel 15 30 (by decide) (hnd 15 (by kernel_rfl)) rfl
            rw [e]; exact congrArg some h
          have r24 : A'.tmps[24]? = some (.bool a) := by
            obtain ⟨x, e, h⟩ := hW.tel 9 24 (by decide) (hnd 9 (by kernel_rfl)) rfl
            rw [e]; exact congrArg some h
          cases a
          all_goals first | replace r29 := gv_yes r29 rfl | replace r29 := gv_no r29 rfl
          all_goals first | replace r30 := gv_yes r30 rfl | replace r30 := gv_no r30 rfl
          all_goals
            first
            | (rw [if_pos (wanted_yes (j := 9) (s := 24) (b := false) rfl (by kernel_rfl) r24)]
               go_simp
               exact hK _ _ (by first | rfl | (show _ = _; simp)) trivial (hS))
            | (rw [if_neg (wanted_no (j := 9) (s := 24) (b := false) rfl (by kernel_rfl) r24)]
               exact hK _ _ rfl trivial (hS))
            | (rw [if_neg (wanted_no2 (j := 9) (s := 24) (b := false) rfl (by kernel_rfl) r24)]
               exact hK _ _ rfl trivial (hS))
        · intro L vs A' u hW hL0 hnd K' hK
          have hS := hW.wi.s
          have r31 : A'.tmps[31]? = some (gv (!a) (.pointer (some ⟨W2.heap.size, k, none⟩))) := by
            obtain ⟨x, e, h⟩ := hW.tel 16 31 (by decide) (hnd 16 (by kernel_rfl)) rfl
            rw [e]; exact congrArg some h
          have r24 : A'.tmps[24]? = some (.bool a) := by
            obtain ⟨x, e, h⟩ := hW.tel 9 24 (by decide) (hnd 9 (by kernel_rfl)) rfl
            rw [e]; exact congrArg some h
          cases a
          all_goals first | replace r31 := gv_yes r31 rfl | replace r31 := gv_no r31 rfl
          all_goals
            first
            | (rw [if_pos (wanted_yes (j := 9) (s := 24) (b := false) rfl (by kernel_rfl) r24)]
               have hc := cell_keep hS HHk.out
               go_simp
               exact hK _ _ (by first | rfl | (show _ = _; simp)) trivial (hS))
            | (rw [if_neg (wanted_no (j := 9) (s := 24) (b := false) rfl (by kernel_rfl) r24)]
               exact hK _ _ rfl trivial (hS))
            | (rw [if_neg (wanted_no2 (j := 9) (s := 24) (b := false) rfl (by kernel_rfl) r24)]
               exact hK _ _ rfl trivial (hS))
        · intro L vs A' u hW hL0 hnd K' hK
          have hS := hW.wi.s
          have r28 : A'.tmps[28]? = some (gv (!a) (iv x)) := by
            obtain ⟨x, e, h⟩ := hW.tel 13 28 (by decide) (hnd 13 (by kernel_rfl)) rfl
            rw [e]; exact congrArg some h
          have r32 : A'.tmps[32]? = some (gv (!a) (iv h)) := by
            obtain ⟨x, e, h⟩ := hW.tel 17 32 (by decide) (hnd 17 (by kernel_rfl)) rfl
            rw [e]; exact congrArg some h
          have r24 : A'.tmps[24]? = some (.bool a) := by
            obtain ⟨x, e, h⟩ := hW.tel 9 24 (by decide) (hnd 9 (by kernel_rfl)) rfl
            rw [e]; exact congrArg some h
          cases a
          all_goals first | replace r28 := gv_yes r28 rfl | replace r28 := gv_no r28 rfl
          all_goals first | replace r32 := gv_yes r32 rfl | replace r32 := gv_no r32 rfl
          all_goals
            first
            | (rw [if_pos (wanted_yes (j := 9) (s := 24) (b := false) rfl (by kernel_rfl) r24)]
               go_simp
               exact hK _ _ (by first | rfl | exact congrArg Value.bool Hb.out | (refine congrArg Value.bool (Eq.trans ?_ Hb.out); rw [decide_eq_decide]; omega)) trivial (hS))
            | (rw [if_neg (wanted_no (j := 9) (s := 24) (b := false) rfl (by kernel_rfl) r24)]
               exact hK _ _ rfl trivial (hS))
            | (rw [if_neg (wanted_no2 (j := 9) (s := 24) (b := false) rfl (by kernel_rfl) r24)]
               exact hK _ _ rfl trivial (hS))
        · intro L vs A' u hW hL0 hnd K' hK
          have hS := hW.wi.s
          have r24 : A'.tmps[24]? = some (.bool a) := by
            obtain ⟨x, e, h⟩ := hW.tel 9 24 (by decide) (hnd 9 (by kernel_rfl)) rfl
            rw [e]; exact congrArg some h
          have r33 : A'.tmps[33]? = some (gv (!a) (.bool b)) := by
            obtain ⟨x, e, h⟩ := hW.tel 18 33 (by decide) (hnd 18 (by kernel_rfl)) rfl
            rw [e]; exact congrArg some h
          cases a
          all_goals first | replace r33 := gv_yes r33 rfl | replace r33 := gv_no r33 rfl
          all_goals
            go_simp
            exact hK _ _ (by first | exact congrArg Value.bool Hg.out | (refine congrArg Value.bool (Eq.trans ?_ Hg.out); simp)) trivial (hS)
      case doneR =>
        intro L vs u9 hS hP hall
        have e0 : vs 0 = iv k := hP 0 (by decide)
        have e1 : vs 1 = .pointer (some ⟨w.heap.size, 0, none⟩) := hP 1 (by decide)
        have e2 : vs 2 = .pointer (some ⟨w.heap.size, k, none⟩) := hP 2 (by decide)
        have e3 : vs 3 = iv x := hP 3 (by decide)
        have e4 : vs 4 = .slice (some ⟨W1.heap.size, 0, none⟩) 8 8 := hP 4 (by decide)
        have e5 : vs 5 = iv k := hP 5 (by decide)
        have e6 : vs 6 = .pointer (some ⟨W1.heap.size, k, none⟩) := hP 6 (by decide)
        have e7 : vs 7 = iv l := hP 7 (by decide)
        have e8 : vs 8 = .bool a := hP 8 (by decide)
        have e9 : vs 9 = .bool a := hP 9 (by decide)
        have e10 : vs 10 = gv (!a) (iv k) := hP 10 (by decide)
        have e11 : vs 11 = gv (!a) (.pointer (some ⟨w.heap.size, 0, none⟩)) := hP 11 (by decide)
        have e12 : vs 12 = gv (!a) (.pointer (some ⟨w.heap.size, k, none⟩)) := hP 12 (by decide)
        have e13 : vs 13 = gv (!a) (iv x) := hP 13 (by decide)
        have e14 : vs 14 = gv (!a) (.slice (some ⟨W2.heap.size, 0, none⟩) 8 8) := hP 14 (by decide)
        have e15 : vs 15 = gv (!a) (iv k) := hP 15 (by decide)
        have e16 : vs 16 = gv (!a) (.pointer (some ⟨W2.heap.size, k, none⟩)) := hP 16 (by decide)
        have e17 : vs 17 = gv (!a) (iv h) := hP 17 (by decide)
        have e18 : vs 18 = gv (!a) (.bool b) := hP 18 (by decide)
        have e19 : vs 19 = .bool g := hP 19 (by decide)
        simp only [putV, List.foldl_cons, List.foldl_nil, List.setIfInBounds_toArray, List.set_cons_zero, List.set_cons_succ, e0, e1, e2, e3, e4, e5, e6, e7, e8, e9, e10, e11, e12, e13, e14, e15, e16, e17, e18, e19]
        have XO := Lib.hid (HOr.out.trans hS)
        clear e0 e1 e2 e3 e4 e5 e6 e7 e8 e9 e10 e11 e12 e13 e14 e15 e16 e17 e18 e19 hP hall fr_R hS
        cases g with
        | true =>
          have HQ := Lib.hid (HE0k.out (fun hh => by
            have h1 := Hg.out
            rw [← Ha.out, ← Hb.out, decide_eq_false (by omega), decide_eq_false (by omega)] at h1
            cases h1))
          clear HE0 HE1 HE0k Ha Hb Hg
          go_wp2
          go_ret
          exact ⟨by rw [HQ.out] <;> rfl, HO.out.trans XO.out⟩
        | false =>
          have HQ := Lib.hid (HAk.out (by
            have h1 := Hg.out
            rw [← Ha.out, ← Hb.out, Bool.or_eq_false_iff, decide_eq_false_iff_not, decide_eq_false_iff_not] at h1
            omega))
          clear Ha Hb Hg HE0k
          go_wp2
          go_roundw
          case rel => exact ⟨k + 1, hlt, by go_num, HQ.out, XO.out⟩
          case measure => simp [intOf]; omega
    · obtain rfl : k = 8 := by omega
      have HQ := Lib.hid (HE1.out (fun j hj => hall j hj))
      have x5 : wr.cell? ⟨w.heap.size, 5, none⟩ = some (iv i.mf) := (HB1.out.only ho (fun e => e)).cell 5
      have x6 : wr.cell? ⟨w.heap.size, 6, none⟩ = some (iv i.xf) := (HB1.out.only ho (fun e => e)).cell 6
      clear HE0 HE1 hall ho
      generalize i.mf = mf at *
      generalize i.xf = xf at *
      go_wp2
      all_goals
        go_ret
        refine ⟨?_, HO.out.trans HOr.out⟩
        rw [HQ.out]
        first | rfl | (show Ending.returned (Value.bool _) = Ending.returned (Value.bool _); congr 2; first | rfl | (simp_all; done) | (simp_all [Bool.eq_iff_iff]; done))
end Go.Proofs.Ytpgcaijanmpanaa
