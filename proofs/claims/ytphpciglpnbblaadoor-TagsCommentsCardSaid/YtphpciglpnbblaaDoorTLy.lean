/-
  TagsComments: its walk.
-/
import Derived.Test.YtphpciglpnbblaaDoorTLr
import Derived.Test.YtphpciglpnbblaaDoorTK
import Derived.Test.YtphpciglpnbblaaDoorTW1
import Derived.Test.YtphpciglpnbblaaDoorTY0
namespace Go.Proofs.YtphpciglpnbblaaDoor
open Go.RowKit Go.Shelf

/-- what writing answers: bytes and an error; what reading answers -/
def WtS (w : World) (E : Int) (ys : List Nat) (e : Ending) (w' : World) : Prop := ∃ A n c, e = .returned (.tuple #[.slice A n c, iv E]) ∧ CSrc w' (.slice A n c) ys ∧ Only Nix w w'
theorem WtR.t {w w' : World} {E : Int} {ys : List Nat} {e : Ending} (h : WtR w E ys e w') (hl : ys.length ≤ 1000000) (hy : ∀ x ∈ ys, x < 256) : WtS w E (if E = 0 then ys else []) e w' := by
  obtain ⟨⟨v, rfl, ho⟩, hn⟩ := h
  obtain ⟨A, c, rfl⟩ := Owns.slice ho
  refine ⟨A, _, c, rfl, ho.csrc ?_ ?_, hn⟩
  · split
    · exact hl
    · simp
  · split
    · exact hy
    · simp
theorem wrC_size (V : ByteArray) (l : List ByteArray) : (wrC V l).length = 8 + V.size + szL l := by
  unfold wrC
  simp only [List.length_append, le_len, nb_len, cmB_len]
  omega
def RcT (w : World) (E : Int) (V : ByteArray) (L : List ByteArray) (e : Ending) (w' : World) : Prop := ∃ A n c, e = .returned (.tuple #[cmV V (.slice A n c), iv E]) ∧ SSrc w' (.slice A n c) L ∧ Only Nix w w'
def RfT (w : World) (E : Int) (V : ByteArray) (L : List ByteArray) (e : Ending) (w' : World) : Prop := ∃ A n c, e = .returned (.tuple #[.string V, .slice A n c, iv E]) ∧ SSrc w' (.slice A n c) L ∧ Only Nix w w'
theorem RcR.t {w w' : World} {bs : List Nat} {e : Ending} (h : RcR w bs e w') : RcT w (rdE bs) (if rdE bs = 0 then rdV bs else ⟨#[]⟩) (if rdE bs = 0 then rdL bs else []) e w' := by
  obtain ⟨⟨v, rfl, hs⟩, hn⟩ := h
  obtain ⟨A, c, rfl, _⟩ := hs.slice
  exact ⟨A, _, c, rfl, hs, hn⟩
theorem RfR.t {w w' : World} {bs : List Nat} {e : Ending} (h : RfR w bs e w') : RfT w (rdE bs) (if rdE bs = 0 then rdV bs else ⟨#[]⟩) (if rdE bs = 0 then rdL bs else []) e w' := by
  obtain ⟨⟨v, rfl, hs⟩, hn⟩ := h
  obtain ⟨A, c, rfl, _⟩ := hs.slice
  exact ⟨A, _, c, rfl, hs, hn⟩
set_option maxRecDepth 100000 in
set_option maxHeartbeats 16000000 in
theorem comments_any {w : World} {V : ByteArray} {x v : Value} {l : List ByteArray} {bs : List Nat} (hx : SSrc w x l) (hb : CSrc w v bs) (hV : V.size ≤ 9223372036854775807) (hl : ∀ s ∈ l, s.size ≤ 9223372036854775807) (hT : Tabs w) :
    Calls Tryd.prog 3 #[cmV V x, v] w fun e w' => e = .returned (.bool true) ∧ Only Nix w w' := by
  obtain ⟨A, c, rfl, _⟩ := hx.slice
  obtain ⟨C, cc, rfl, _⟩ := hb.form
  obtain ⟨W1, hW1⟩ : ∃ W1, w.alloc (.cells #[.string V, .slice A l.length c] 24) = W1 := ⟨_, rfl⟩
  have b1 := Box.new w 24 #[.string V, .slice A l.length c]
  have o1 := (Only.refl Nix w).alloc (.cells #[.string V, .slice A l.length c] 24)
  rw [hW1] at b1 o1
  have c0 := b1.cell 0
  have c1 := b1.cell 1
  simp only [List.getElem?_toArray, List.getElem?_cons_zero, List.getElem?_cons_succ] at c0 c1
  have HX := Lib.hid (hx.nix o1)
  have HBs := Lib.hid (hb.nix o1)
  have HO1 := Lib.hid o1
  have HBc := Lib.hid b1
  have HT := Lib.hid (hT.nix o1)
  have hsb := hb.src.small
  have HFw := Lib.hid (few_any (V := V) HX.out hV hl)
  have HAw : Hid (∀ u, Only Nix W1 u → Calls Tryd.prog 8 #[] u fun e w' => e = .returned (.bool true) ∧ Only Nix u w') := Lib.hid (fun u hu => awake_any (HT.out.nix hu))
  clear hx hb b1 o1 hT hl hV
  obtain ⟨kc, hkc⟩ : ∃ kc, w.heap.size = kc := ⟨_, rfl⟩
  rw [hkc] at HBc c0 c1
  have Hkc := Lib.hid hkc
  by_cases hfw : fewC V l
  · rw [decide_eq_true hfw] at HFw
    have hz := few_sz hfw
    by_cases g4 : bs.length ≤ 500
    · have g4i : ¬ (500 : Int) < (bs.length : Int) := by omega
      have HWr : Hid (∀ u, Only Nix W1 u → Calls Tryd.prog 9 #[.agg #[.string V, .slice A l.length c]] u fun e w' => WtS u (ckE V l) (if ckE V l = 0 then wrC V l else []) e w') := Lib.hid (fun u hu => (write_any (V := V) (HX.out.nix hu) hz (HT.out.nix hu)).mono (fun e w' h => h.t (by rw [wrC_size]; omega) (wrC_lt V l)))
      have HCm : Hid (∀ u, Only Nix W1 u → Calls Tryd.prog 10 #[.string V, .slice A l.length c] u fun e w' => WtS u (ckE V l) (if ckE V l = 0 then wrC V l else []) e w') := Lib.hid (fun u hu => (comments13_any (V := V) (HX.out.nix hu) hz).mono (fun e w' h => h.t (by rw [wrC_size]; omega) (wrC_lt V l)))
      have HRc : Hid (∀ u, Only Nix W1 u → Calls Tryd.prog 12 #[.slice C bs.length cc] u fun e w' => RcT u (rdE bs) (if rdE bs = 0 then rdV bs else ⟨#[]⟩) (if rdE bs = 0 then rdL bs else []) e w') := Lib.hid (fun u hu => (readC_any (HBs.out.nix hu) (by omega) (HT.out.nix hu)).mono (fun e w' h => h.t))
      have HRf : Hid (∀ u, Only Nix W1 u → Calls Tryd.prog 13 #[.slice C bs.length cc] u fun e w' => RfT u (rdE bs) (if rdE bs = 0 then rdV bs else ⟨#[]⟩) (if rdE bs = 0 then rdL bs else []) e w') := Lib.hid (fun u hu => (readC13_any (HBs.out.nix hu) (by omega)).mono (fun e w' h => h.t))
      clear hfw hz
      generalize (if ckE V l = 0 then wrC V l else []) = YS at *
      generalize ckE V l = E1 at *
      generalize (if rdE bs = 0 then rdV bs else ⟨#[]⟩) = RV at *
      generalize (if rdE bs = 0 then rdL bs else []) = RL at *
      generalize rdE bs = E3 at *
      go_enter Tryd.func3, Tryd.ntmps3
      go_wp2_with fail
      refine (HFw.out).mono ?_
      rintro e u1 ⟨rfl, ho⟩
      have HU1 := Lib.hid ho
      have hbc := HBc.out.only ho (fun e => e)
      have j0 := hbc.cell 0
      have j1 := hbc.cell 1
      simp only [List.getElem?_toArray, List.getElem?_cons_zero, List.getElem?_cons_succ] at j0 j1
      have HN1 := Lib.hid (HWr.out u1 ho)
      clear ho hbc c0 c1
      go_wp2_with fail
      refine (HN1.out).mono ?_
      rintro e u2 ⟨A3, n3, c3, rfl, h3, ho⟩
      have HU2 := Lib.hid (HU1.out.trans ho)
      have H3 := Lib.hid h3
      have hbc := HBc.out.only HU2.out (fun e => e)
      have k0 := hbc.cell 0
      have k1 := hbc.cell 1
      simp only [List.getElem?_toArray, List.getElem?_cons_zero, List.getElem?_cons_succ] at k0 k1
      have HN2 := Lib.hid (HCm.out u2 HU2.out)
      clear ho h3 hbc j0 j1
      go_wp2_with fail
      refine (HN2.out).mono ?_
      rintro e u3 ⟨A4, n4, c4, rfl, h4, ho⟩
      have HU3 := Lib.hid (HU2.out.trans ho)
      have HBy := Lib.hid (equal_at (H3.out.nix ho).src h4.src)
      clear ho h4 k0 k1
      go_wp2_with fail
      refine (HBy.out).mono ?_
      rintro e u4 ⟨rfl, ho⟩
      have HU4 := Lib.hid (HU3.out.trans ho)
      have HN3 := Lib.hid (HRc.out u4 HU4.out)
      clear ho
      go_wp2_with fail
      refine (HN3.out).mono ?_
      rintro e u5 ⟨A5, n5, c5, rfl, h5, ho⟩
      have o5 := ho.alloc (.cells #[.string RV, .slice A5 n5 c5] 24)
      have b5 := Box.new u5 24 #[.string RV, .slice A5 n5 c5]
      have s5 := h5.nix ((Only.refl Nix u5).alloc (.cells #[.string RV, .slice A5 n5 c5] 24))
      obtain ⟨u6, hu6⟩ : ∃ u6, u5.alloc (.cells #[.string RV, .slice A5 n5 c5] 24) = u6 := ⟨_, rfl⟩
      rw [hu6] at o5 b5 s5
      have HU6 := Lib.hid (HU4.out.trans o5)
      have B5 := Lib.hid b5
      have S5 := Lib.hid s5
      have HN4 := Lib.hid (HRf.out u6 HU6.out)
      clear ho h5 o5 b5 s5
      go_wp2_with fail
      refine (HN4.out).mono ?_
      rintro e u7 ⟨A6, n6, c6, rfl, h6, ho⟩
      have HU7 := Lib.hid (HU6.out.trans ho)
      have hbc := B5.out.only ho (fun e => e)
      have j0 := hbc.cell 0
      have j1 := hbc.cell 1
      simp only [List.getElem?_toArray, List.getElem?_cons_zero, List.getElem?_cons_succ] at j0 j1
      have HTx := Lib.hid (texts_at (S5.out.nix ho) h6)
      clear ho h6 hbc
      go_wp2_with fail
      refine (HTx.out).mono ?_
      rintro e u8 ⟨rfl, ho⟩
      have HU8 := Lib.hid (HU7.out.trans ho)
      have HAw8 := Lib.hid (HAw.out u8 HU8.out)
      clear ho j0 j1
      go_wp2_with fail
      refine (HAw8.out).mono ?_
      rintro e u9 ⟨rfl, ho⟩
      have HU9 := Lib.hid (HO1.out.trans (HU8.out.trans ho))
      clear ho
      go_wp2
      go_ret
      exact ⟨rfl, HU9.out⟩
    · have g4i : (500 : Int) < (bs.length : Int) := by omega
      clear hz
      go_enter Tryd.func3, Tryd.ntmps3
      go_wp2_with fail
      refine (HFw.out).mono ?_
      rintro e u1 ⟨rfl, ho⟩
      have HU := Lib.hid ho
      have HA := Lib.hid (HAw.out u1 ho)
      clear ho c0 c1
      go_wp2_with fail
      refine (HA.out).mono ?_
      rintro e u2 ⟨rfl, ho⟩
      have HF := Lib.hid (HO1.out.trans (HU.out.trans ho))
      clear ho
      go_wp2
      go_ret
      exact ⟨rfl, HF.out⟩
  · rw [decide_eq_false hfw] at HFw
    go_enter Tryd.func3, Tryd.ntmps3
    go_wp2_with fail
    refine (HFw.out).mono ?_
    rintro e u1 ⟨rfl, ho⟩
    have HU := Lib.hid ho
    have HA := Lib.hid (HAw.out u1 ho)
    clear ho c0 c1
    go_wp2_with fail
    refine (HA.out).mono ?_
    rintro e u2 ⟨rfl, ho⟩
    have HF := Lib.hid (HO1.out.trans (HU.out.trans ho))
    clear ho
    go_wp2
    go_ret
    exact ⟨rfl, HF.out⟩
end Go.Proofs.YtphpciglpnbblaaDoor
