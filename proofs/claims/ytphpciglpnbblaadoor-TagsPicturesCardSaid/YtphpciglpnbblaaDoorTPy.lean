/-
  TagsPictures: its walk.
-/
import Derived.Test.YtphpciglpnbblaaDoorTPd
import Derived.Test.YtphpciglpnbblaaDoorTPM
import Derived.Test.YtphpciglpnbblaaDoorTK
namespace Go.Proofs.YtphpciglpnbblaaDoor
open Go.RowKit Go.Shelf

/-- a picture loaded whole, behind a guard -/
theorem load_pic_g2 {w : World} {ops : Array Oper} {rest : List Oper} {o : Oper} {a : Act} {Q : Exit → Act → World → Prop} (j s : Nat) (g : Bool) (hg : o.guard = some (j, g)) (hd : (ops[j]?.bind fun x => x.dst) = some s) (ht : a.tmps[s]? = some (.bool g)) (x : Operand) (ho : o.op = .load 40 x)
    (b : Nat) (i : Pc) (d : Value) (hx : a.eval x = .pointer (some ⟨b, 0, none⟩)) (hB : Box w b 40 (pcc i d))
    (h : wpList Tryd.prog ops Q rest (a.put o.dst (pcV i d)) w) : wpList Tryd.prog ops Q (o :: rest) a w :=
  BigFrame.wpList_want (wanted_yes hg hd ht) fun _ hK => wp_load_row _ x ho b hx _ _ (0, 0) _ hB Tryd.underlying40 rfl Tryd.size_picture (hK _ _ h)
/-- what writing answers; what reading answers -/
def WtQ (w : World) (E : Int) (ys : List Nat) (e : Ending) (w' : World) : Prop := ∃ A n c, e = .returned (.tuple #[.slice A n c, iv E]) ∧ CSrc w' (.slice A n c) ys ∧ Only Nix w w'
theorem WtR.q {w w' : World} {E : Int} {ys : List Nat} {e : Ending} (h : WtR w E ys e w') (hl : ys.length ≤ 1000000) (hy : ∀ x ∈ ys, x < 256) : WtQ w E (if E = 0 then ys else []) e w' := by
  obtain ⟨⟨v, rfl, ho⟩, hn⟩ := h
  obtain ⟨A, c, rfl⟩ := Owns.slice ho
  refine ⟨A, _, c, rfl, ho.csrc ?_ ?_, hn⟩
  · split
    · exact hl
    · simp
  · split
    · exact hy
    · simp
def RpT (w : World) (E : Int) (P : Pc) (D : List Nat) (e : Ending) (w' : World) : Prop := ∃ A n c, e = .returned (.tuple #[pcV P (.slice A n c), iv E]) ∧ CSrc w' (.slice A n c) D ∧ Only Nix w w'
def RqT (w : World) (E : Int) (P : Pc) (D : List Nat) (e : Ending) (w' : World) : Prop := ∃ A n c, e = .returned (.tuple #[.agg #[iv P.k, iv P.w, iv P.h, iv P.b, iv P.c], .string P.m, .string P.t, .slice A n c, iv E]) ∧ CSrc w' (.slice A n c) D ∧ Only Nix w w'
theorem RpR.t {w w' : World} {bs : List Nat} {e : Ending} (h : RpR w bs e w') : RpT w (rpE bs) (if rpE bs = 0 then rpP bs else pz) (if rpE bs = 0 then rpD bs else []) e w' := by
  obtain ⟨⟨v, rfl, hs⟩, hn⟩ := h
  obtain ⟨A, c, rfl, _⟩ := hs.form
  exact ⟨A, _, c, rfl, hs, hn⟩
theorem RqR.t {w w' : World} {bs : List Nat} {e : Ending} (h : RqR w bs e w') : RqT w (rpE bs) (if rpE bs = 0 then rpP bs else pz) (if rpE bs = 0 then rpD bs else []) e w' := by
  obtain ⟨⟨v, rfl, hs⟩, hn⟩ := h
  obtain ⟨A, c, rfl, _⟩ := hs.form
  refine ⟨A, _, c, ?_, hs, hn⟩
  by_cases h0 : rpE bs = 0
  · simp only [if_pos h0]
  · simp only [if_neg h0]
    rfl
set_option maxRecDepth 100000 in
set_option maxHeartbeats 16000000 in
theorem pictures_any {w : World} {y v : Value} {p : Pc} {ds bs : List Nat} (hy : CSrc w y ds) (hb : CSrc w v bs) (hT : Tabs w) :
    Calls Tryd.prog 5 #[pcV p y, v] w fun e w' => e = .returned (.bool true) ∧ Only Nix w w' := by
  obtain ⟨B, d, rfl, _⟩ := hy.form
  obtain ⟨C, cc, rfl, _⟩ := hb.form
  obtain ⟨W1, hW1⟩ : ∃ W1, w.alloc (.cells (pcc p (.slice B ds.length d)) 40) = W1 := ⟨_, rfl⟩
  have b1 := Box.new w 40 (pcc p (.slice B ds.length d))
  have o1 := (Only.refl Nix w).alloc (.cells (pcc p (.slice B ds.length d)) 40)
  rw [hW1] at b1 o1
  obtain ⟨kp, hkp⟩ : ∃ kp, w.heap.size = kp := ⟨_, rfl⟩
  rw [hkp] at b1
  have HY := Lib.hid (hy.nix o1)
  have HBs := Lib.hid (hb.nix o1)
  have HO1 := Lib.hid o1
  have HBp := Lib.hid b1
  have HT := Lib.hid (hT.nix o1)
  have hsy := hy.src.small
  have hsb := hb.src.small
  have HAw : Hid (∀ u, Only Nix W1 u → Calls Tryd.prog 8 #[] u fun e w' => e = .returned (.bool true) ∧ Only Nix u w') := Lib.hid (fun u hu => awake_any (HT.out.nix hu))
  have c1 := pc1 b1
  have c2 := pc2 b1
  have c7 := pc7 b1
  have HAw1 := Lib.hid (HAw.out W1 (Only.refl _ _))
  clear hy hb b1 o1 hT
  by_cases g1 : p.m.size ≤ 200
  · have g1i : ¬ (200 : Int) < (p.m.size : Int) := by omega
    by_cases g2 : p.t.size ≤ 200
    · have g2i : ¬ (200 : Int) < (p.t.size : Int) := by omega
      by_cases g3 : ds.length ≤ 200
      · have g3i : ¬ (200 : Int) < (ds.length : Int) := by omega
        by_cases g4 : bs.length ≤ 500
        · have g4i : ¬ (500 : Int) < (bs.length : Int) := by omega
          have hwl : (wrP p ds).length ≤ 1000000 := by rw [wrP_len]; omega
          have HWr : Hid (∀ u, Only Nix W1 u → Calls Tryd.prog 15 #[pcV p (.slice B ds.length d)] u fun e w' => WtQ u (pcE p) (if pcE p = 0 then wrP p ds else []) e w') := Lib.hid (fun u hu => (pwrite_any (HY.out.nix hu) (by omega) (by omega) (by omega) (HT.out.nix hu)).mono (fun e w' h => h.q hwl (wrP_lt p HY.out.src.lt)))
          have HPi : Hid (∀ u, Only Nix W1 u → Calls Tryd.prog 18 #[.agg #[iv p.k, iv p.w, iv p.h, iv p.b, iv p.c], .string p.m, .string p.t, .slice B ds.length d] u fun e w' => WtQ u (pcE p) (if pcE p = 0 then wrP p ds else []) e w') := Lib.hid (fun u hu => (picture13_any (HY.out.nix hu) (by omega) (by omega) (by omega)).mono (fun e w' h => h.q hwl (wrP_lt p HY.out.src.lt)))
          have HRp : Hid (∀ u, Only Nix W1 u → Calls Tryd.prog 16 #[.slice C bs.length cc] u fun e w' => RpT u (rpE bs) (if rpE bs = 0 then rpP bs else pz) (if rpE bs = 0 then rpD bs else []) e w') := Lib.hid (fun u hu => (readP_any (HBs.out.nix hu) (by omega) (HT.out.nix hu)).mono (fun e w' h => h.t))
          have HRq : Hid (∀ u, Only Nix W1 u → Calls Tryd.prog 19 #[.slice C bs.length cc] u fun e w' => RqT u (rpE bs) (if rpE bs = 0 then rpP bs else pz) (if rpE bs = 0 then rpD bs else []) e w') := Lib.hid (fun u hu => (readP13_any (HBs.out.nix hu) (by omega)).mono (fun e w' h => h.t))
          clear hwl
          generalize (if pcE p = 0 then wrP p ds else []) = YS at *
          generalize pcE p = E1 at *
          generalize (if rpE bs = 0 then rpP bs else pz) = RP at *
          generalize (if rpE bs = 0 then rpD bs else []) = RD at *
          generalize rpE bs = E3 at *
          have HN1 := Lib.hid (HWr.out W1 (Only.refl _ _))
          go_enter Tryd.func5, Tryd.ntmps5
          go_wp2_with (first
            | (refine load_pic rfl (.tmp 2) rfl kp p (.slice B ds.length d) rfl HBp.out ?_)
            | fail)
          refine (HN1.out).mono ?_
          rintro e u2 ⟨A3, n3, c3, rfl, h3, ho⟩
          have HU2 := Lib.hid ho
          have H3 := Lib.hid h3
          have hbp := HBp.out.only ho (fun e => e)
          have k0 := pc0 hbp
          have k1 := pc1 hbp
          have k2 := pc2 hbp
          have k3 := pc3 hbp
          have k4 := pc4 hbp
          have k5 := pc5 hbp
          have k6 := pc6 hbp
          have k7 := pc7 hbp
          have HN2 := Lib.hid (HPi.out u2 ho)
          clear ho h3 hbp c1 c2 c7
          go_wp2_with fail
          refine (HN2.out).mono ?_
          rintro e u3 ⟨A4, n4, c4, rfl, h4, ho⟩
          have HU3 := Lib.hid (HU2.out.trans ho)
          have HBy := Lib.hid (equal_at (H3.out.nix ho).src h4.src)
          clear ho h4 k0 k1 k2 k3 k4 k5 k6 k7
          go_wp2_with fail
          refine (HBy.out).mono ?_
          rintro e u4 ⟨rfl, ho⟩
          have HU4 := Lib.hid (HU3.out.trans ho)
          have HN3 := Lib.hid (HRp.out u4 HU4.out)
          clear ho
          go_wp2_with fail
          refine (HN3.out).mono ?_
          rintro e u5 ⟨A5, n5, c5, rfl, h5, ho⟩
          have HU5 := Lib.hid (HU4.out.trans ho)
          have H5 := Lib.hid h5
          clear ho h5
          go_wp2_with (first
            | (refine store_pic rfl (.tmp 9) (.tmp 76) rfl rfl u5.heap.size RP pz (.slice A5 n5 c5) (.slice none 0 0) rfl rfl (Box.new u5 _ _) rfl ?_)
            | fail)
          intro u6 hb6 ho6
          have o56 : Only Nix u5 u6 := ((Only.refl Nix u5).alloc _).then ho6 (fun i hi => .inr (by rw [show i = _ from hi]; exact Nat.le_refl _))
          have HB6 := Lib.hid hb6
          have H6 := Lib.hid (H5.out.nix o56)
          have HU6 := Lib.hid (HU5.out.trans o56)
          have HN4 := Lib.hid (HRq.out u6 HU6.out)
          clear hb6 ho6 o56
          go_wp2_with fail
          refine (HN4.out).mono ?_
          rintro e u7 ⟨A7, n7, c7, rfl, h7, ho⟩
          have o78 := ho.alloc (.cells #[iv RP.k, iv RP.w, iv RP.h, iv RP.b, iv RP.c] a5T)
          have b8 := Box.new u7 a5T #[iv RP.k, iv RP.w, iv RP.h, iv RP.b, iv RP.c]
          have s8 := h7.nix ((Only.refl Nix u7).alloc (.cells #[iv RP.k, iv RP.w, iv RP.h, iv RP.b, iv RP.c] a5T))
          obtain ⟨u8, hu8⟩ : ∃ u8, u7.alloc (.cells #[iv RP.k, iv RP.w, iv RP.h, iv RP.b, iv RP.c] a5T) = u8 := ⟨_, rfl⟩
          rw [hu8] at o78 b8 s8
          have HU8 := Lib.hid (HU6.out.trans o78)
          have HB8 := Lib.hid (HB6.out.only o78 (fun e => e))
          have HPc := Lib.hid (picture_at (p := RP) (H6.out.nix o78) s8)
          have m0 := b8.cell 0
          have m1 := b8.cell 1
          have m2 := b8.cell 2
          have m3 := b8.cell 3
          have m4 := b8.cell 4
          simp only [List.getElem?_toArray, List.getElem?_cons_zero, List.getElem?_cons_succ] at m0 m1 m2 m3 m4
          clear ho h7 o78 b8 s8
          go_wp2_with (first
            | (refine load_pic_g2 3 89 true rfl (by kernel_rfl) rfl (.tmp 9) rfl u5.heap.size RP (.slice A5 n5 c5) rfl HB8.out ?_)
            | fail)
          refine (HPc.out).mono ?_
          rintro e u9 ⟨rfl, ho⟩
          have HU9 := Lib.hid (HU8.out.trans ho)
          have HA9 := Lib.hid (HAw.out u9 HU9.out)
          clear ho m0 m1 m2 m3 m4
          go_wp2_with fail
          refine (HA9.out).mono ?_
          rintro e uA ⟨rfl, ho⟩
          have HF := Lib.hid (HO1.out.trans (HU9.out.trans ho))
          clear ho
          go_wp2
          go_ret
          exact ⟨rfl, HF.out⟩
        · have g4i : (500 : Int) < (bs.length : Int) := by omega
          go_enter Tryd.func5, Tryd.ntmps5
          go_wp2_with fail
          refine (HAw1.out).mono ?_
          rintro e u2 ⟨rfl, ho⟩
          have HF := Lib.hid (HO1.out.trans ho)
          clear ho c1 c2 c7
          go_wp2
          go_ret
          exact ⟨rfl, HF.out⟩
      · have g3i : (200 : Int) < (ds.length : Int) := by omega
        go_enter Tryd.func5, Tryd.ntmps5
        go_wp2_with fail
        refine (HAw1.out).mono ?_
        rintro e u2 ⟨rfl, ho⟩
        have HF := Lib.hid (HO1.out.trans ho)
        clear ho c1 c2 c7
        go_wp2
        go_ret
        exact ⟨rfl, HF.out⟩
    · have g2i : (200 : Int) < (p.t.size : Int) := by omega
      go_enter Tryd.func5, Tryd.ntmps5
      go_wp2_with fail
      refine (HAw1.out).mono ?_
      rintro e u2 ⟨rfl, ho⟩
      have HF := Lib.hid (HO1.out.trans ho)
      clear ho c1 c2 c7
      go_wp2
      go_ret
      exact ⟨rfl, HF.out⟩
  · have g1i : (200 : Int) < (p.m.size : Int) := by omega
    go_enter Tryd.func5, Tryd.ntmps5
    go_wp2_with fail
    refine (HAw1.out).mono ?_
    rintro e u2 ⟨rfl, ho⟩
    have HF := Lib.hid (HO1.out.trans ho)
    clear ho c1 c2 c7
    go_wp2
    go_ret
    exact ⟨rfl, HF.out⟩
end Go.Proofs.YtphpciglpnbblaaDoor
