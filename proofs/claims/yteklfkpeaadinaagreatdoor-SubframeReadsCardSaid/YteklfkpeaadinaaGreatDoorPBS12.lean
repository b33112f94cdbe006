/-
  Package subframe: wasted, samples.
-/
import Derived.Test.YteklfkpeaadinaaGreatDoorPBSH
namespace Go.Proofs.YteklfkpeaadinaaGreatDoor.S
open Go.RowKit
open K (linV)
/-- Wasted can be read -/
def WsOk (bs : List Nat) (a d wd a' : Nat) : Prop := takeE bs a 1 = 0 ∧ ((numAt bs a 1 = 0 ∧ wd = 0 ∧ a' = a + 1) ∨ (numAt bs a 1 ≠ 0 ∧ unaryE bs (a + 1) = 0 ∧ (wd : Int) = unaryR bs (a + 1) + 1 ∧ wd < d ∧ a' = unaryA bs (a + 1)))
/-- what wasted answers -/
def WsR (w : World) (r : Nat) (v : Value) (bs : List Nat) (a d : Nat) (e : Ending) (w' : World) : Prop :=
  (∃ (E : Int) (a' : Nat), e = two 0 E ∧ (E = 10 ∨ E = 11) ∧ Rd w' r v bs a' ∧ Only (Just r) w w' ∧ ∀ wd a', ¬ WsOk bs a d wd a') ∨
  (∃ wd a' : Nat, e = two wd 0 ∧ WsOk bs a d wd a' ∧ Rd w' r v bs a' ∧ Only (Just r) w w')
theorem unaryE_cases (bs : List Nat) (a : Nat) : unaryE bs a = 0 ∨ unaryE bs a = 11 := by unfold unaryE; split <;> simp
theorem unaryR_le (bs : List Nat) (a : Nat) (h : a ≤ 8 * bs.length) : unaryR bs a ≤ 8 * (bs.length : Int) := by
  have := oneAt_le bs a h
  unfold unaryR
  split <;> omega
set_option maxHeartbeats 2000000 in
theorem wasted_any {w : World} {r : Nat} {v : Value} {bs : List Nat} {a : Nat} (hR : Rd w r v bs a) (d : Nat) (hd : d ≤ 33) :
    Calls Tryz.prog 80 #[rdV r, iv d] w fun e w' => WsR w r v bs a d e w' := by
  have hrw := hR.mem
  have hsm := hR.small
  obtain ⟨Wa, hWa⟩ : ∃ Wa, w.alloc (.cells #[.pointer (some ⟨r, 0, none⟩)] 89) = Wa := ⟨_, rfl⟩
  have a0 := (Only.refl Nix w).alloc (.cells #[.pointer (some ⟨r, 0, none⟩)] 89)
  have br := Box.new w 89 #[.pointer (some ⟨r, 0, none⟩)]
  rw [hWa] at a0 br
  have hnr : w.heap.size ≠ r := by omega
  have HT1 := Lib.hid (take_any (hR.nix a0) (1 : Int))
  have H1c := Lib.hid (takeE_cases bs a 1 (by omega))
  have H1p : Hid (takeE bs a 1 = 0 → takeR bs a 1 = (numAt bs a 1 : Int) ∧ takeA bs a 1 = a + 1) := Lib.hid (takeR_ok (n := 1))
  have HU : Hid (∀ u, Rd u r v bs (a + 1) → Calls Tryz.prog 104 #[.pointer (some ⟨r, 0, none⟩)] u fun e w' => e = two (unaryR bs (a + 1)) (unaryE bs (a + 1)) ∧ Rd w' r v bs (unaryA bs (a + 1)) ∧ Only (Just r) u w') := Lib.hid (fun u hu => runary_any hu)
  have HUc := Lib.hid (unaryE_cases bs (a + 1))
  have HUn := Lib.hid (unaryR_nat bs (a + 1))
  have HUl := Lib.hid (fun (h : a + 1 ≤ 8 * bs.length) => unaryR_le bs (a + 1) h)
  have HOk : Hid (∀ wd a', WsOk bs a d wd a' ↔ (takeE bs a 1 = 0 ∧ ((numAt bs a 1 = 0 ∧ wd = 0 ∧ a' = a + 1) ∨ (numAt bs a 1 ≠ 0 ∧ unaryE bs (a + 1) = 0 ∧ (wd : Int) = unaryR bs (a + 1) + 1 ∧ wd < d ∧ a' = unaryA bs (a + 1))))) := Lib.hid (fun _ _ => Iff.rfl)
  generalize takeE bs a 1 = E1 at *
  generalize takeR bs a 1 = R1 at *
  generalize takeA bs a 1 = A1 at *
  generalize unaryE bs (a + 1) = EU at *
  generalize unaryR bs (a + 1) = RU at *
  generalize unaryA bs (a + 1) = AU at *
  generalize numAt bs a 1 = n1 at *
  have HA := Lib.hid a0
  have HBr := Lib.hid br
  have Hsm := Lib.hid hsm
  have d0 := br.cell 0
  simp only [List.getElem?_toArray, List.getElem?_cons_zero, List.getElem?_cons_succ] at d0
  clear a0 br hR hsm
  go_enter Tryz.func80, Tryz.ntmps80
  go_wp2_with fail
  refine (HT1.out).mono ?_
  rintro e w1 ⟨rfl, hR1, o1⟩
  have HBr1 := Lib.hid (HBr.out.only o1 (fun e => hnr e))
  have HR1 := Lib.hid hR1
  have HO1 := Lib.hid ((HA.out.nix (F := Just r)).trans o1)
  clear hR1 o1 HT1 d0
  by_cases h1 : E1 = 0
  · subst h1
    obtain ⟨e1, e2⟩ := H1p.out rfl
    subst e1 e2
    clear H1p H1c
    by_cases h2 : n1 = 0
    · subst h2
      have HF : Hid (WsR w r v bs a d (two 0 0) w1) := Lib.hid (.inr ⟨0, a + 1, rfl, (HOk.out _ _).2 ⟨rfl, .inl ⟨rfl, rfl, rfl⟩⟩, HR1.out, HO1.out⟩)
      clear HU HOk
      go_wp2
      go_ret2
      exact HF.out
    · have h2i : ¬ (n1 : Int) = 0 := by omega
      have h2b : ((n1 : Int) == 0) = false := by simpa using h2i
      have H2 := Lib.hid h2
      have HU1 := Lib.hid (HU.out w1 HR1.out)
      have d0 := HBr1.out.cell 0
      simp only [List.getElem?_toArray, List.getElem?_cons_zero, List.getElem?_cons_succ] at d0
      clear HU h2
      go_wp2_with fail
      refine (HU1.out).mono ?_
      rintro e w2 ⟨rfl, hR2, o2⟩
      have HR2 := Lib.hid hR2
      have HO2 := Lib.hid (HO1.out.trans o2)
      clear hR2 o2 HU1 d0
      by_cases h3 : EU = 0
      · subst h3
        obtain ⟨U, rfl⟩ := Int.eq_ofNat_of_zero_le HUn.out
        have hU : (U : Int) ≤ 1125899906842624 := by
          have h5 := HR1.out.le
          have := HUl.out h5
          have := Hsm.out
          omega
        by_cases h4 : d ≤ U + 1
        · have h4i : (d : Int) ≤ (U : Int) + 1 := by omega
          have HF : Hid (WsR w r v bs a d (two 0 10) w2) := Lib.hid (.inl ⟨10, AU, rfl, .inl rfl, HR2.out, HO2.out, fun wd a' h => by
            rcases ((HOk.out _ _).1 h).2 with h5 | h5
            · exact H2.out h5.1
            · omega⟩)
          clear HOk h4
          go_wp2
          go_ret2
          exact HF.out
        · have h4i : ¬ (d : Int) ≤ (U : Int) + 1 := by omega
          have hU1 : (U : Int) + 1 = ((U + 1 : Nat) : Int) := by omega
          have HF : Hid (WsR w r v bs a d (two (U + 1 : Nat) 0) w2) := Lib.hid (.inr ⟨U + 1, AU, rfl, (HOk.out _ _).2 (by first | exact ⟨rfl, .inr ⟨H2.out, rfl, by omega, by omega, rfl⟩⟩ | exact ⟨rfl, .inr ⟨H2.out, trivial, by omega, by omega, rfl⟩⟩ | exact ⟨trivial, .inr ⟨H2.out, rfl, by omega, by omega, rfl⟩⟩), HR2.out, HO2.out⟩)
          have HUe := Lib.hid hU1
          clear HOk h4 hU1
          go_wp2
          go_ret2
          show WsR w r v bs a d (two ((U : Int) + 1) 0) w2
          rw [HUe.out]
          exact HF.out
      · obtain rfl : EU = 11 := by rcases HUc.out with h | h; exact absurd h h3; exact h
        have HF : Hid (WsR w r v bs a d (two 0 11) w2) := Lib.hid (.inl ⟨11, AU, rfl, .inr rfl, HR2.out, HO2.out, fun wd a' h => by
            rcases ((HOk.out _ _).1 h).2 with h5 | h5
            · exact H2.out h5.1
            · omega⟩)
        clear HOk h3 HUc
        go_wp2
        go_ret2
        exact HF.out
  · obtain rfl : E1 = 11 := by rcases H1c.out with h | h; exact absurd h h1; exact h
    have HF : Hid (WsR w r v bs a d (two 0 11) w1) := Lib.hid (.inl ⟨11, A1, rfl, .inr rfl, HR1.out, HO1.out, fun wd a' h => by
      have := ((HOk.out _ _).1 h).1
      omega⟩)
    clear HOk h1 H1c H1p
    go_wp2
    go_ret2
    exact HF.out
/-- numbers of so many bits, one behind the other -/
def smV (bs : List Nat) (a n dep : Nat) : List Int := (List.range n).map fun i => signR bs (a + i * dep) dep
theorem smV_len (bs : List Nat) (a n dep : Nat) : (smV bs a n dep).length = n := by simp [smV]
theorem smV_getD (bs : List Nat) (a n dep j : Nat) (h : j < n) : (smV bs a n dep).getD j 0 = signR bs (a + j * dep) dep := by
  unfold smV
  rw [List.getD_eq_getElem?_getD, List.getElem?_map, List.getElem?_range h]
  rfl
theorem signR_bound (bs : List Nat) (a dep : Nat) (hd : dep ≤ 48) : -281474976710656 ≤ signR bs a dep ∧ signR bs a dep ≤ 281474976710656 := by
  have h := numAt_lt48 bs a ((dep : Int).toNat) (by omega)
  have h2 : (2 : Int) ^ (dep : Int).toNat ≤ 281474976710656 := by
    rw [Int.toNat_natCast, pow_cast]
    have := pow_le_of hd
    have e : (2 : Nat) ^ 48 = 281474976710656 := by decide
    rw [e] at this
    omega
  have h3 : (0 : Int) < 2 ^ (dep : Int).toNat := Int.pow_pos (by decide)
  unfold signR
  split
  · split <;> omega
  · omega
/-- what samples answers -/
def SmR (w : World) (r : Nat) (v : Value) (bs : List Nat) (a n dep : Nat) (e : Ending) (w' : World) : Prop :=
  (8 * bs.length < a + n * dep ∧ e = .returned (.tuple #[.slice none 0 0, iv 11]) ∧ Rd w' r v bs a ∧ Only (Just r) w w') ∨
  (a + n * dep ≤ 8 * bs.length ∧ ∃ g, e = .returned (.tuple #[.slice (some ⟨g, 0, none⟩) n n, iv 0]) ∧ Box w' g 3 ((smV bs a n dep).map iv).toArray ∧ w.heap.size ≤ g ∧ Rd w' r v bs (a + n * dep) ∧ Only (Just r) w w')
def SmP (w : World) (r : Nat) (v : Value) (bs : List Nat) (a n dep g : Nat) (s : Value) (wr : World) : Prop :=
  ∃ j : Nat, j ≤ n ∧ s = iv j ∧ Rd wr r v bs (a + j * dep) ∧ Box wr g 3 (K.cellsM (smV bs a n dep) j).toArray ∧ Only (Just r) w wr ∧ Box wr w.heap.size 89 #[.pointer (some ⟨r, 0, none⟩)]
set_option maxHeartbeats 2000000 in
theorem samples_any {w : World} {r : Nat} {v : Value} {bs : List Nat} {a : Nat} (hR : Rd w r v bs a) (n dep : Nat) (hn : n ≤ 65535) (hd : dep ≤ 48) :
    Calls Tryz.prog 81 #[rdV r, iv n, iv dep] w fun e w' => SmR w r v bs a n dep e w' := by
  have hrw := hR.mem
  have hsm := hR.small
  have hle := hR.le
  obtain ⟨Wa, hWa⟩ : ∃ Wa, w.alloc (.cells #[.pointer (some ⟨r, 0, none⟩)] 89) = Wa := ⟨_, rfl⟩
  have a0 := (Only.refl Nix w).alloc (.cells #[.pointer (some ⟨r, 0, none⟩)] 89)
  have br := Box.new w 89 #[.pointer (some ⟨r, 0, none⟩)]
  rw [hWa] at a0 br
  have hnr : w.heap.size ≠ r := by omega
  have hR0 := hR.nix a0
  have HL := Lib.hid (left_any hR0)
  have hnd : n * dep ≤ 65535 * 48 := Nat.mul_le_mul hn hd
  have hmul : (n : Int) * (dep : Int) = ((n * dep : Nat) : Int) := by rw [Int.natCast_mul]
  obtain ⟨M, hM⟩ : ∃ M, n * dep = M := ⟨_, rfl⟩
  rw [hM] at hmul hnd
  have hM2 : M ≤ 3145680 := hnd
  have HM := Lib.hid hM
  obtain ⟨X, hX⟩ : ∃ X, Hid (smV bs a n dep = X) := ⟨_, Lib.hid rfl⟩
  have HXl : Hid (X.length = n) := Lib.hid (by rw [← hX.out]; exact smV_len _ _ _ _)
  have HXd : Hid (∀ j, j < n → X.getD j 0 = signR bs (a + j * dep) dep) := Lib.hid (fun j hj => by rw [← hX.out]; exact smV_getD _ _ _ _ _ hj)
  have HA := Lib.hid a0
  have HBr := Lib.hid br
  have HR0 := Lib.hid hR0
  have HR := Lib.hid hR
  have Hsm := Lib.hid hsm
  have Hle := Lib.hid hle
  have d0 := br.cell 0
  simp only [List.getElem?_toArray, List.getElem?_cons_zero, List.getElem?_cons_succ] at d0
  obtain ⟨Z, hZ⟩ : ∃ Z : Nat, 8 * bs.length = Z := ⟨_, rfl⟩
  have hZi : 8 * (bs.length : Int) = (Z : Int) := by omega
  have hZ2 : Z ≤ 1125899906842624 := by omega
  rw [hZi] at HL
  have haZ : (a : Int) ≤ (Z : Int) := by omega
  have hLi : (Z : Int) - (a : Int) = ((Z - a : Nat) : Int) := by omega
  rw [hLi] at HL
  have HZ := Lib.hid hZ
  clear a0 br hR hR0 hsm hle hnd hM hZ hZi hLi
  by_cases h1 : Z < a + M
  · have h1i : ((Z - a : Nat) : Int) < (M : Int) := by omega
    obtain ⟨q, hq⟩ : ∃ q, Z - a = q := ⟨_, rfl⟩
    rw [hq] at HL h1i
    have HH1 : Hid (8 * bs.length < a + n * dep) := Lib.hid (by rw [HZ.out, HM.out]; exact h1)
    clear h1 haZ hZ2
    go_enter Tryz.func81, Tryz.ntmps81
    go_wp2_with fail
    refine (HL.out).mono ?_
    rintro e w1 ⟨rfl, kq, rfl⟩
    have HF : Hid (SmR w r v bs a n dep (.returned (.tuple #[.slice none 0 0, iv 11])) (Wa.drewN kq)) := Lib.hid (.inl ⟨HH1.out, rfl, HR0.out.drewN kq, (HA.out.nix (F := Just r)).drewN kq⟩)
    go_wp2
    go_ret2
    exact HF.out
  · have h1i : ¬ ((Z - a : Nat) : Int) < (M : Int) := by omega
    obtain ⟨q, hq⟩ : ∃ q, Z - a = q := ⟨_, rfl⟩
    rw [hq] at HL h1i
    have HH1 : Hid (a + n * dep ≤ 8 * bs.length) := Lib.hid (by rw [HZ.out, HM.out]; omega)
    have h1d : decide (q < M) = false := decide_eq_false (by omega)
    clear h1 haZ hZ2 hq h1i
    have hmk := fun (u : World) => run_make_row' (P := Tryz.prog) 22 3 (.int .i64 0) 8 Tryz.underlying22 Tryz.info_int rfl .i64 .i64 n (by omega) (by omega) u
    simp only [K.made_ints] at hmk
    obtain ⟨ZS, hZS⟩ : ∃ ZS, List.replicate n (iv 0) = ZS := ⟨_, rfl⟩
    simp only [hZS] at hmk
    have HZS := Lib.hid hZS
    clear hZS
    go_enter Tryz.func81, Tryz.ntmps81
    go_wp2_with fail
    refine (HL.out).mono ?_
    rintro e w1 ⟨rfl, kq, rfl⟩
    have HR1 := Lib.hid (HR0.out.drewN kq)
    have HO1 := Lib.hid ((HA.out.nix (F := Just r)).drewN kq)
    have HBr1 := Lib.hid (HBr.out.drewN kq)
    clear HL d0 HR0 HA HBr
    generalize Wa.drewN kq = w1 at *
    have hs1 := HO1.out.size
    have HR2 := Lib.hid (HR1.out.alloc (.cells ZS.toArray 3))
    have HO2 := Lib.hid (HO1.out.alloc (.cells ZS.toArray 3))
    have HB2 := Lib.hid (HBr1.out.alloc (.cells ZS.toArray 3))
    have HX2 : Hid (Box (w1.alloc (.cells ZS.toArray 3)) w1.heap.size 3 (K.cellsM X 0).toArray) := Lib.hid (by
      have : K.cellsM X 0 = ZS := by unfold K.cellsM; rw [← HZS.out, HXl.out]; simp
      rw [this]
      exact Box.new _ _ _)
    have hlt1 : w.heap.size < w1.heap.size := HBr1.out.lt
    go_wp2
    go_loopw [21] (fun s wr => SmP w r v bs a n dep w1.heap.size s wr) (fun s _ => n - (intOf s).toNat)
    case atStart => exact ⟨0, Nat.zero_le _, rfl, by rw [Nat.zero_mul]; exact HR2.out, by rw [hX.out]; exact HX2.out, HO2.out, HB2.out⟩
    case round =>
      obtain ⟨j, hj, rfl, hr, hb, hO, hbr⟩ := hrel
      rw [hX.out] at hb
      have HRr := Lib.hid hr
      have HBb := Lib.hid hb
      have HOr := Lib.hid hO
      have HBrr := Lib.hid hbr
      have d0 := hbr.cell 0
      simp only [List.getElem?_toArray, List.getElem?_cons_zero, List.getElem?_cons_succ] at d0
      clear hr hb hO hbr
      by_cases hlt : j < n
      · have hlt2 : (j : Int) < (n : Int) := by omega
        have hstep : (j + 1) * dep = j * dep + dep := Nat.succ_mul j dep
        have hjd : (j + 1) * dep ≤ n * dep := Nat.mul_le_mul_right _ hlt
        have hT : takeE bs (a + j * dep) (dep : Int) = 0 := takeE_ok (by omega) (by have := HH1.out; omega)
        have hTA : takeA bs (a + j * dep) (dep : Int) = a + (j + 1) * dep := by unfold takeA; rw [if_pos hT]; omega
        have HS := Lib.hid (signed_any HRr.out (dep : Int))
        rw [hT, hTA] at HS
        have hjX : j < X.length := by rw [HXl.out]; exact hlt
        have hset := K.cellsM_set X j hjX
        rw [HXd.out j hlt] at hset
        have Hset := Lib.hid hset
        have hbd := signR_bound bs (a + j * dep) dep hd
        generalize signR bs (a + j * dep) dep = x at *
        have hcl : j < (K.cellsM X j).length := by rw [K.cellsM_len X j (by omega)]; exact hjX
        have Hcl := Lib.hid hcl
        clear hstep hjd hT hTA hset hjX hcl
        go_wp2_with fail
        refine (HS.out).mono ?_
        rintro e w4 ⟨rfl, h4, o4⟩
        have hg4 : w1.heap.size ≠ r := by have := hrw; omega
        have hb4 := HBb.out.only o4 (fun e => hg4 e)
        have hbr4 := HBrr.out.only o4 (fun e => hnr e)
        have hc4 := hb4.cell j
        rw [List.getElem?_toArray, List.getElem?_eq_getElem Hcl.out] at hc4
        have hf4 := hb4.frozen j
        have hp := hb4.put j (iv x)
        rw [Hset.out] at hp
        have HP := Lib.hid hp
        have oj : Only (Just w1.heap.size) w4 (w4.setCell ⟨w1.heap.size, j, none⟩ (iv x)) := Only.setCell (F := Just w1.heap.size) (Only.refl _ _) (p := ⟨w1.heap.size, j, none⟩) (.inl rfl) _
        have HR5 := Lib.hid (rd_just h4 hb4 (by decide) hg4 oj)
        have HO5 := Lib.hid (only_just (HOr.out.trans o4) oj hs1)
        have HB5 := Lib.hid (hbr4.off (p := ⟨w1.heap.size, j, none⟩) (by show w.heap.size ≠ w1.heap.size; omega) (iv x))
        clear h4 o4 hb4 hbr4 hp oj HS
        go_wp2
        go_roundw
        case rel => exact ⟨j + 1, by omega, by go_num, HR5.out, by rw [hX.out]; exact HP.out, HO5.out, HB5.out⟩
        case measure => simp [intOf]; omega
      · obtain rfl : j = n := by omega
        have HF : Hid (SmR w r v bs a j dep (.returned (.tuple #[.slice (some ⟨w1.heap.size, 0, none⟩) j j, iv 0])) wr) := Lib.hid (.inr ⟨HH1.out, w1.heap.size, rfl, by
          rw [hX.out]
          have := HBb.out
          rw [show j = X.length from HXl.out.symm, K.cellsM_all] at this
          exact this, hs1, HRr.out, HOr.out⟩)
        go_wp2
        go_ret2
        exact HF.out
end Go.Proofs.YteklfkpeaadinaaGreatDoor.S
