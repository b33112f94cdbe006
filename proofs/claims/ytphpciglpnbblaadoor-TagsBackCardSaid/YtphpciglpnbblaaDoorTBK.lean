/-
  TagsBack: its walk.
-/
import Derived.Test.YtphpciglpnbblaaDoorTPM
import Derived.Test.YtphpciglpnbblaaDoorTK
import Derived.Test.YtphpciglpnbblaaDoorTY0
import Derived.Deep.CutRange
import Derived.Deep.Cut
namespace Go.Proofs.YtphpciglpnbblaaDoor
open Go.RowKit Go.Shelf

/-- a picture loaded whole, behind a guard -/
theorem load_pic_g {w : World} {ops : Array Oper} {rest : List Oper} {o : Oper} {a : Act} {Q : Exit → Act → World → Prop} (j s : Nat) (g : Bool) (hg : o.guard = some (j, g)) (hd : (ops[j]?.bind fun x => x.dst) = some s) (ht : a.tmps[s]? = some (.bool g)) (x : Operand) (ho : o.op = .load 40 x)
    (b : Nat) (i : Pc) (d : Value) (hx : a.eval x = .pointer (some ⟨b, 0, none⟩)) (hB : Box w b 40 (pcc i d))
    (h : wpList Tryd.prog ops Q rest (a.put o.dst (pcV i d)) w) : wpList Tryd.prog ops Q (o :: rest) a w :=
  BigFrame.wpList_want (wanted_yes hg hd ht) fun _ hK => wp_load_row _ x ho b hx _ _ (0, 0) _ hB Tryd.underlying40 rfl Tryd.size_picture (hK _ _ h)
/-- what the three calls answer, as the law needs it -/
def WrS (w : World) (E : Int) (ys : List Nat) (e : Ending) (w' : World) : Prop := ∃ A n c, e = .returned (.tuple #[.slice A n c, iv E]) ∧ (E = 0 → CSrc w' (.slice A n c) ys) ∧ Only Nix w w'
def RcS (w : World) (E : Int) (V : ByteArray) (L : List ByteArray) (e : Ending) (w' : World) : Prop := ∃ U A n c, e = .returned (.tuple #[cmV U (.slice A n c), iv E]) ∧ (E = 0 → U = V ∧ SSrc w' (.slice A n c) L) ∧ Only Nix w w'
def RpS (w : World) (E : Int) (P : Pc) (D : List Nat) (e : Ending) (w' : World) : Prop := ∃ Q A n c, e = .returned (.tuple #[pcV Q (.slice A n c), iv E]) ∧ (E = 0 → Q = P ∧ CSrc w' (.slice A n c) D) ∧ Only Nix w w'
theorem WtR.s {w w' : World} {E : Int} {ys : List Nat} {e : Ending} (h : WtR w E ys e w') (hl : ys.length ≤ 1000000) (hy : ∀ x ∈ ys, x < 256) : WrS w E ys e w' := by
  obtain ⟨⟨v, rfl, ho⟩, hn⟩ := h
  obtain ⟨A, c, rfl⟩ := Owns.slice ho
  exact ⟨A, _, c, rfl, fun hE => by rw [if_pos hE] at ho ⊢; exact ho.csrc hl hy, hn⟩
theorem RcR.s {w w' : World} {bs : List Nat} {e : Ending} (h : RcR w bs e w') : RcS w (rdE bs) (rdV bs) (rdL bs) e w' := by
  obtain ⟨⟨v, rfl, hs⟩, hn⟩ := h
  obtain ⟨A, c, rfl, _⟩ := hs.slice
  exact ⟨_, A, _, c, rfl, fun hE => ⟨if_pos hE, by rw [if_pos hE] at hs ⊢; exact hs⟩, hn⟩
theorem RpR.s {w w' : World} {bs : List Nat} {e : Ending} (h : RpR w bs e w') : RpS w (rpE bs) (rpP bs) (rpD bs) e w' := by
  obtain ⟨⟨v, rfl, hs⟩, hn⟩ := h
  obtain ⟨A, c, rfl, _⟩ := hs.form
  exact ⟨_, A, _, c, rfl, fun hE => ⟨if_pos hE, by rw [if_pos hE] at hs ⊢; exact hs⟩, hn⟩
set_option maxRecDepth 100000 in
set_option maxHeartbeats 16000000 in
theorem back_any {w : World} {V : ByteArray} {x y v : Value} {l : List ByteArray} {p : Pc} {ds bs : List Nat} (hx : SSrc w x l) (hy : CSrc w y ds) (hb : CSrc w v bs) (hV : V.size ≤ 9223372036854775807) (hl : ∀ s ∈ l, s.size ≤ 9223372036854775807) (hT : Tabs w) :
    Calls Tryd.prog 4 #[cmV V x, pcV p y, v] w fun e w' => e = .returned (.bool true) ∧ Only Nix w w' := by
  obtain ⟨A, c, rfl, _⟩ := hx.slice
  obtain ⟨B, d, rfl, _⟩ := hy.form
  obtain ⟨C, cc, rfl, _⟩ := hb.form
  obtain ⟨W1, hW1⟩ : ∃ W1, w.alloc (.cells #[.string V, .slice A l.length c] 24) = W1 := ⟨_, rfl⟩
  have b1 := Box.new w 24 #[.string V, .slice A l.length c]
  have o1 := (Only.refl Nix w).alloc (.cells #[.string V, .slice A l.length c] 24)
  rw [hW1] at b1 o1
  obtain ⟨W2, hW2⟩ : ∃ W2, W1.alloc (.cells (pcc p (.slice B ds.length d)) 40) = W2 := ⟨_, rfl⟩
  have b2 := Box.new W1 40 (pcc p (.slice B ds.length d))
  have b3 := b1.alloc (.cells (pcc p (.slice B ds.length d)) 40)
  have o2 := o1.alloc (.cells (pcc p (.slice B ds.length d)) 40)
  rw [hW2] at b2 b3 o2
  have c0 := b3.cell 0
  have c1 := b3.cell 1
  simp only [List.getElem?_toArray, List.getElem?_cons_zero, List.getElem?_cons_succ] at c0 c1
  have HX := Lib.hid (hx.nix o2)
  have HY := Lib.hid (hy.nix o2)
  have HBs := Lib.hid (hb.nix o2)
  have HO2 := Lib.hid o2
  have HBc := Lib.hid b3
  have HBp := Lib.hid b2
  have HT := Lib.hid (hT.nix o2)
  have hsy := hy.src.small
  have hsb := hb.src.small
  have HFw := Lib.hid (few_any (V := V) HX.out hV hl)
  have HAw : Hid (∀ u, Only Nix W2 u → Calls Tryd.prog 8 #[] u fun e w' => e = .returned (.bool true) ∧ Only Nix u w') := Lib.hid (fun u hu => awake_any (HT.out.nix hu))
  clear hx hy hb b1 b2 b3 o1 o2 hT hl hV
  by_cases hfw : fewC V l
  · rw [decide_eq_true hfw] at HFw
    have hz := few_sz hfw
    by_cases g1 : p.m.size ≤ 200
    · have g1i : ¬ (200 : Int) < (p.m.size : Int) := by omega
      by_cases g2 : p.t.size ≤ 200
      · have g2i : ¬ (200 : Int) < (p.t.size : Int) := by omega
        by_cases g3 : ds.length ≤ 200
        · have g3i : ¬ (200 : Int) < (ds.length : Int) := by omega
          by_cases g4 : bs.length ≤ 500
          · have g4i : ¬ (500 : Int) < (bs.length : Int) := by omega
            have HG := Lib.hid (And.intro g1 (And.intro g2 (And.intro g3 g4)))
            have HWr : Hid (∀ u, Only Nix W2 u → Calls Tryd.prog 9 #[.agg #[.string V, .slice A l.length c]] u fun e w' => WrS u (ckE V l) (wrC V l) e w') := Lib.hid (fun u hu => (write_any (V := V) (HX.out.nix hu) hz (HT.out.nix hu)).mono (fun e w' h => h.s (by rw [wrC_len]; omega) (wrC_lt V l)))
            have HRd : Hid (ckE V l = 0 → ∀ u A n c, CSrc u (.slice A n c) (wrC V l) → Only Nix W2 u → Calls Tryd.prog 12 #[.slice A n c] u fun e w' => RcS u 0 V l e w') := Lib.hid (fun h0 u A n c hz1 hu => (readC_any hz1 (by rw [wrC_len]; exact hz) (HT.out.nix hu)).mono (fun e w' h => by
              have h1 := h.s
              obtain ⟨r1, r2, r3⟩ := rd_wr V l hz
              rw [r1, r2, r3, h0] at h1
              exact h1))
            have HPw : Hid (∀ u, Only Nix W2 u → Calls Tryd.prog 15 #[pcV p (.slice B ds.length d)] u fun e w' => WrS u (pcE p) (wrP p ds) e w') := Lib.hid (fun u hu => (pwrite_any (HY.out.nix hu) (by omega) (by omega) (by omega) (HT.out.nix hu)).mono (fun e w' h => h.s (by rw [wrP_len]; omega) (wrP_lt p HY.out.src.lt)))
            have HPr : Hid (pcE p = 0 → ∀ u A n c, CSrc u (.slice A n c) (wrP p ds) → Only Nix W2 u → Calls Tryd.prog 16 #[.slice A n c] u fun e w' => RpS u 0 p ds e w') := Lib.hid (fun h0 u A n c hz1 hu => (readP_any hz1 (by rw [wrP_len]; omega) (HT.out.nix hu)).mono (fun e w' h => by
              have h1 := h.s
              obtain ⟨r1, r2, r3⟩ := rp_wr p ds (by omega) (by omega) (by omega) h0
              rw [r1, r2, r3] at h1
              exact h1))
            have HcR : Hid (∀ u, Only Nix W2 u → Calls Tryd.prog 12 #[.slice C bs.length cc] u fun e w' => RcS u (rdE bs) (rdV bs) (rdL bs) e w') := Lib.hid (fun u hu => (readC_any (HBs.out.nix hu) (by omega) (HT.out.nix hu)).mono (fun e w' h => h.s))
            have HpR : Hid (∀ u, Only Nix W2 u → Calls Tryd.prog 16 #[.slice C bs.length cc] u fun e w' => RpS u (rpE bs) (rpP bs) (rpD bs) e w') := Lib.hid (fun u hu => (readP_any (HBs.out.nix hu) (by omega) (HT.out.nix hu)).mono (fun e w' h => h.s))
            have HcW : Hid (rdE bs = 0 → ∀ u A n c, SSrc u (.slice A n c) (rdL bs) → Only Nix W2 u → Calls Tryd.prog 9 #[.agg #[.string (rdV bs), .slice A n c]] u fun e w' => WrS u 0 bs e w') := Lib.hid (fun h0 u A n c hz1 hu => (write_any (V := rdV bs) hz1 (by have h1 := rd_sz bs; omega) (HT.out.nix hu)).mono (fun e w' h => by
              obtain ⟨r1, r2⟩ := wr_rd bs HBs.out.src.lt h0
              rw [r1, r2] at h
              exact h.s (by omega) HBs.out.src.lt))
            have HpW : Hid (rpE bs = 0 → ∀ u A n c, CSrc u (.slice A n c) (rpD bs) → Only Nix W2 u → Calls Tryd.prog 15 #[pcV (rpP bs) (.slice A n c)] u fun e w' => WrS u 0 bs e w') := Lib.hid (fun h0 u A n c hz1 hu => (pwrite_any hz1 (by have h1 := rp_sz bs; omega) (by have h1 := rp_sz bs; omega) (by have h1 := rp_sz bs; omega) (HT.out.nix hu)).mono (fun e w' h => by
              obtain ⟨r1, r2⟩ := wr_rp bs HBs.out.src.lt h0
              rw [r1, r2] at h
              exact h.s (by omega) HBs.out.src.lt))
            clear hfw hz
            generalize ckE V l = E1 at *
            generalize pcE p = E2 at *
            generalize rdE bs = E3 at *
            generalize rpE bs = E4 at *
            generalize wrC V l = WB at *
            generalize wrP p ds = PB at *
            generalize rdV bs = RV at *
            generalize rdL bs = RL at *
            generalize rpP bs = RP at *
            generalize rpD bs = RD at *
            obtain ⟨kp, hkp⟩ : ∃ kp, W1.heap.size = kp := ⟨_, rfl⟩
            obtain ⟨kc, hkc⟩ : ∃ kc, w.heap.size = kc := ⟨_, rfl⟩
            rw [hkp] at HBp
            rw [hkc] at HBc c0 c1
            go_enter Tryd.func4, Tryd.ntmps4
            go_wp2_with fail
            refine (HFw.out).mono ?_
            rintro e u1 ⟨rfl, ho⟩
            have HU1 := Lib.hid ho
            have k1 := pc1 (HBp.out.only ho (fun e => e))
            have k2 := pc2 (HBp.out.only ho (fun e => e))
            have k7 := pc7 (HBp.out.only ho (fun e => e))
            have hbc := HBc.out.only ho (fun e => e)
            have j0 := hbc.cell 0
            have j1 := hbc.cell 1
            simp only [List.getElem?_toArray, List.getElem?_cons_zero, List.getElem?_cons_succ] at j0 j1
            have HN1 := Lib.hid (HWr.out u1 ho)
            clear ho hbc c0 c1
            go_wp2_with fail
            refine (HN1.out).mono ?_
            rintro e u2 ⟨A3, n3, c3, rfl, h3, ho⟩
            have HU2 := Lib.hid (HU1.out.trans ho)
            have H3 := Lib.hid h3
            clear ho h3 k1 k2 k7 j0 j1
            go_upto_if 56 with fail
            go_cut [9, 10] from 56 to 78 (fun s9 s10 wx => Only Nix W2 wx)
            case first =>
              by_cases hE : E1 = 0
              · subst hE
                have HR := Lib.hid (HRd.out rfl u2 A3 n3 c3 (H3.out rfl) HU2.out)
                go_wp2_with fail
                refine (HR.out).mono ?_
                rintro e u3 ⟨U, A4, n4, c4, rfl, h4, ho⟩
                obtain ⟨rfl, hs4⟩ := h4 rfl
                have o4 := ho.alloc (.cells #[.string U, .slice A4 n4 c4] 24)
                have b4 := Box.new u3 24 #[.string U, .slice A4 n4 c4]
                have s4 := hs4.nix ((Only.refl Nix u3).alloc (.cells #[.string U, .slice A4 n4 c4] 24))
                obtain ⟨u4, hu4⟩ : ∃ u4, u3.alloc (.cells #[.string U, .slice A4 n4 c4] 24) = u4 := ⟨_, rfl⟩
                rw [hu4] at o4 b4 s4
                have HU4 := Lib.hid (HU2.out.trans o4)
                have e0 := b4.cell 0
                have e1 := b4.cell 1
                have hbc := HBc.out.only HU4.out (fun e => e)
                have j0 := hbc.cell 0
                have j1 := hbc.cell 1
                simp only [List.getElem?_toArray, List.getElem?_cons_zero, List.getElem?_cons_succ] at e0 e1 j0 j1
                have HTx := Lib.hid (texts_at s4 (HX.out.nix HU4.out))
                clear ho hs4 h4 o4 b4 s4 hbc
                go_wp2_with fail
                refine (HTx.out).mono ?_
                rintro e u5 ⟨rfl, ho⟩
                have HU5 := Lib.hid (HU4.out.trans ho)
                clear ho
                go_wp2
                go_meet
                exact HU5.out
              · go_wp2
                go_meet
                exact HU2.out
            case rest =>
            have HV1 : Hid (Only Nix W2 wc) := Lib.hid hcut
            clear hcut HRd H3
            generalize wc = x1 at *
            have HN2 := Lib.hid (HPw.out x1 HV1.out)
            have HBp1 := Lib.hid (HBp.out.only HV1.out (fun e => e))
            go_wp2_with (first
              | (refine load_pic rfl (.tmp 4) rfl kp p (.slice B ds.length d) rfl HBp1.out ?_)
              | fail)
            refine (HN2.out).mono ?_
            rintro e x2 ⟨A5, n5, c5, rfl, h5, ho⟩
            have HV2 := Lib.hid (HV1.out.trans ho)
            have H5 := Lib.hid h5
            clear ho h5
            go_upto_if 85 with fail
            go_cut [13, 14] from 85 to 98 (fun s13 s14 wx => Only Nix W2 wx)
            case first =>
              by_cases hE : E2 = 0
              · subst hE
                have HR := Lib.hid (HPr.out rfl x2 A5 n5 c5 (H5.out rfl) HV2.out)
                go_wp2_with fail
                refine (HR.out).mono ?_
                rintro e x3 ⟨Q, A6, n6, c6, rfl, h6, ho⟩
                obtain ⟨rfl, hs6⟩ := h6 rfl
                have HS6 := Lib.hid hs6
                have HV3 := Lib.hid (HV2.out.trans ho)
                clear ho hs6 h6
                go_wp2_with (first
                  | (refine store_pic rfl (.tmp 13) (.tmp 89) rfl rfl x3.heap.size Q pz (.slice A6 n6 c6) (.slice none 0 0) rfl rfl (Box.new x3 _ _) rfl ?_)
                  | fail)
                intro x4 hb4 ho4
                have HB4 := Lib.hid hb4
                have o34 : Only Nix x3 x4 := ((Only.refl Nix x3).alloc _).then ho4 (fun i hi => .inr (by rw [show i = _ from hi]; exact Nat.le_refl _))
                have HV4 := Lib.hid (HV3.out.trans o34)
                have HBp4 := Lib.hid (HBp.out.only HV4.out (fun e => e))
                have HPc := Lib.hid (picture_at (p := Q) (HS6.out.nix o34) (HY.out.nix HV4.out))
                clear hb4 ho4 o34
                go_wp2_with (first
                  | (refine load_pic_g 2 93 false rfl (by kernel_rfl) rfl (.tmp 13) rfl x3.heap.size Q (.slice A6 n6 c6) rfl HB4.out ?_)
                  | (refine load_pic_g 2 93 false rfl (by kernel_rfl) rfl (.tmp 4) rfl kp Q (.slice B ds.length d) rfl HBp4.out ?_)
                  | fail)
                refine (HPc.out).mono ?_
                rintro e x5 ⟨rfl, ho⟩
                have HV5 := Lib.hid (HV4.out.trans ho)
                clear ho
                go_wp2
                go_meet
                exact HV5.out
              · go_wp2
                go_meet
                exact HV2.out
            case rest =>
            have HX2 : Hid (Only Nix W2 wc) := Lib.hid hcut
            clear hcut HPr H5
            generalize wc = y1 at *
            have HN3 := Lib.hid (HcR.out y1 HX2.out)
            go_wp2_with fail
            refine (HN3.out).mono ?_
            rintro e y2 ⟨U3, A7, n7, c7, rfl, h7, ho⟩
            have o7 := ho.alloc (.cells #[.string U3, .slice A7 n7 c7] 24)
            have b7 := Box.new y2 24 #[.string U3, .slice A7 n7 c7]
            have s7 : E3 = 0 → U3 = RV ∧ SSrc (y2.alloc (.cells #[.string U3, .slice A7 n7 c7] 24)) (.slice A7 n7 c7) RL := fun h => ⟨(h7 h).1, (h7 h).2.nix ((Only.refl Nix y2).alloc _)⟩
            obtain ⟨y3, hy3⟩ : ∃ y3, y2.alloc (.cells #[.string U3, .slice A7 n7 c7] 24) = y3 := ⟨_, rfl⟩
            rw [hy3] at o7 b7 s7
            have HX3 := Lib.hid (HX2.out.trans o7)
            have H7 := Lib.hid s7
            have B7 := Lib.hid b7
            clear ho h7 o7 b7 s7
            go_upto_if 105 with fail
            go_cut [17, 18] from 105 to 118 (fun s17 s18 wx => Only Nix W2 wx)
            case first =>
              by_cases hE : E3 = 0
              · subst hE
                obtain ⟨rfl, hs7⟩ := H7.out rfl
                have HR := Lib.hid (HcW.out rfl y3 A7 n7 c7 hs7 HX3.out)
                have e0 := B7.out.cell 0
                have e1 := B7.out.cell 1
                simp only [List.getElem?_toArray, List.getElem?_cons_zero, List.getElem?_cons_succ] at e0 e1
                clear hs7
                go_wp2_with fail
                refine (HR.out).mono ?_
                rintro e y4 ⟨A8, n8, c8, rfl, h8, ho⟩
                have HX4 := Lib.hid (HX3.out.trans ho)
                have HBy := Lib.hid (equal_at (h8 rfl).src (HBs.out.nix HX4.out).src)
                clear ho h8 e0 e1
                go_wp2_with fail
                refine (HBy.out).mono ?_
                rintro e y5 ⟨rfl, ho⟩
                have HX5 := Lib.hid (HX4.out.trans ho)
                clear ho
                go_wp2
                go_meet
                exact HX5.out
              · go_wp2
                go_meet
                exact HX3.out
            case rest =>
            have HY1 : Hid (Only Nix W2 wc) := Lib.hid hcut
            clear hcut HcW H7 B7 HcR hy3
            generalize wc = q1 at *
            have HN4 := Lib.hid (HpR.out q1 HY1.out)
            go_wp2_with fail
            refine (HN4.out).mono ?_
            rintro e q2 ⟨Q4, A9, n9, c9, rfl, h9, ho⟩
            have HY2 := Lib.hid (HY1.out.trans ho)
            have H9 := Lib.hid h9
            clear ho h9
            go_wp2_with (first
              | (refine store_pic rfl (.tmp 19) (.tmp 122) rfl rfl q2.heap.size Q4 pz (.slice A9 n9 c9) (.slice none 0 0) rfl rfl (Box.new q2 _ _) rfl ?_)
              | fail)
            intro q3 hb9 ho9
            have B9 := Lib.hid hb9
            have o39 : Only Nix q2 q3 := ((Only.refl Nix q2).alloc _).then ho9 (fun i hi => .inr (by rw [show i = _ from hi]; exact Nat.le_refl _))
            have HY3 := Lib.hid (HY2.out.trans o39)
            have HO39 := Lib.hid o39
            clear hb9 ho9 o39
            go_upto_if 125 with fail
            go_cut [21, 22] from 125 to 138 (fun s21 s22 wx => Only Nix W2 wx)
            case first =>
              by_cases hE : E4 = 0
              · subst hE
                obtain ⟨rfl, hs9⟩ := H9.out rfl
                have HR := Lib.hid (HpW.out rfl q3 A9 n9 c9 (hs9.nix HO39.out) HY3.out)
                clear hs9
                go_wp2_with (first
                  | (refine load_pic rfl (.tmp 19) rfl q2.heap.size Q4 (.slice A9 n9 c9) rfl B9.out ?_)
                  | fail)
                refine (HR.out).mono ?_
                rintro e q4 ⟨A8, n8, c8, rfl, h8, ho⟩
                have HY4 := Lib.hid (HY3.out.trans ho)
                have HBy := Lib.hid (equal_at (h8 rfl).src (HBs.out.nix HY4.out).src)
                clear ho h8
                go_wp2_with fail
                refine (HBy.out).mono ?_
                rintro e q5 ⟨rfl, ho⟩
                have HY5 := Lib.hid (HY4.out.trans ho)
                clear ho
                go_wp2
                go_meet
                exact HY5.out
              · go_wp2
                go_meet
                exact HY3.out
            case rest =>
            have HZ1 : Hid (Only Nix W2 wc) := Lib.hid hcut
            clear hcut
            generalize wc = t1 at *
            have HA1 := Lib.hid (HAw.out t1 HZ1.out)
            go_wp2_with fail
            refine (HA1.out).mono ?_
            rintro e t2 ⟨rfl, ho⟩
            have HZ2 := Lib.hid (HO2.out.trans (HZ1.out.trans ho))
            clear ho
            go_wp2
            go_ret
            exact ⟨rfl, HZ2.out⟩
          · have g4i : (500 : Int) < (bs.length : Int) := by omega
            clear hz
            go_enter Tryd.func4, Tryd.ntmps4
            go_wp2_with fail
            refine (HFw.out).mono ?_
            rintro e u1 ⟨rfl, ho⟩
            have HU := Lib.hid ho
            have k1 := pc1 (HBp.out.only ho (fun e => e))
            have k2 := pc2 (HBp.out.only ho (fun e => e))
            have k7 := pc7 (HBp.out.only ho (fun e => e))
            have HA := Lib.hid (HAw.out u1 ho)
            clear ho
            go_wp2_with fail
            refine (HA.out).mono ?_
            rintro e u2 ⟨rfl, ho⟩
            have HU2 := Lib.hid (HO2.out.trans (HU.out.trans ho))
            clear ho
            go_wp2
            go_ret
            exact ⟨rfl, HU2.out⟩
        · have g3i : (200 : Int) < (ds.length : Int) := by omega
          clear hz
          go_enter Tryd.func4, Tryd.ntmps4
          go_wp2_with fail
          refine (HFw.out).mono ?_
          rintro e u1 ⟨rfl, ho⟩
          have HU := Lib.hid ho
          have k1 := pc1 (HBp.out.only ho (fun e => e))
          have k2 := pc2 (HBp.out.only ho (fun e => e))
          have k7 := pc7 (HBp.out.only ho (fun e => e))
          have HA := Lib.hid (HAw.out u1 ho)
          clear ho
          go_wp2_with fail
          refine (HA.out).mono ?_
          rintro e u2 ⟨rfl, ho⟩
          have HU2 := Lib.hid (HO2.out.trans (HU.out.trans ho))
          clear ho
          go_wp2
          go_ret
          exact ⟨rfl, HU2.out⟩
      · have g2i : (200 : Int) < (p.t.size : Int) := by omega
        clear hz
        go_enter Tryd.func4, Tryd.ntmps4
        go_wp2_with fail
        refine (HFw.out).mono ?_
        rintro e u1 ⟨rfl, ho⟩
        have HU := Lib.hid ho
        have k1 := pc1 (HBp.out.only ho (fun e => e))
        have k2 := pc2 (HBp.out.only ho (fun e => e))
        have k7 := pc7 (HBp.out.only ho (fun e => e))
        have HA := Lib.hid (HAw.out u1 ho)
        clear ho
        go_wp2_with fail
        refine (HA.out).mono ?_
        rintro e u2 ⟨rfl, ho⟩
        have HU2 := Lib.hid (HO2.out.trans (HU.out.trans ho))
        clear ho
        go_wp2
        go_ret
        exact ⟨rfl, HU2.out⟩
    · have g1i : (200 : Int) < (p.m.size : Int) := by omega
      clear hz
      go_enter Tryd.func4, Tryd.ntmps4
      go_wp2_with fail
      refine (HFw.out).mono ?_
      rintro e u1 ⟨rfl, ho⟩
      have HU := Lib.hid ho
      have k1 := pc1 (HBp.out.only ho (fun e => e))
      have k2 := pc2 (HBp.out.only ho (fun e => e))
      have k7 := pc7 (HBp.out.only ho (fun e => e))
      have HA := Lib.hid (HAw.out u1 ho)
      clear ho
      go_wp2_with fail
      refine (HA.out).mono ?_
      rintro e u2 ⟨rfl, ho⟩
      have HU2 := Lib.hid (HO2.out.trans (HU.out.trans ho))
      clear ho
      go_wp2
      go_ret
      exact ⟨rfl, HU2.out⟩
  · rw [decide_eq_false hfw] at HFw

    go_enter Tryd.func4, Tryd.ntmps4
    go_wp2_with fail
    refine (HFw.out).mono ?_
    rintro e u1 ⟨rfl, ho⟩
    have HU := Lib.hid ho
    have k1 := pc1 (HBp.out.only ho (fun e => e))
    have k2 := pc2 (HBp.out.only ho (fun e => e))
    have k7 := pc7 (HBp.out.only ho (fun e => e))
    have HA := Lib.hid (HAw.out u1 ho)
    clear ho
    go_wp2_with fail
    refine (HA.out).mono ?_
    rintro e u2 ⟨rfl, ho⟩
    have HU2 := Lib.hid (HO2.out.trans (HU.out.trans ho))
    clear ho
    go_wp2
    go_ret
    exact ⟨rfl, HU2.out⟩
end Go.Proofs.YtphpciglpnbblaaDoor
