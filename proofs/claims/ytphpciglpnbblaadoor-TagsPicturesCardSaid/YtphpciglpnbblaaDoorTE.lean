/-
  Comments: Write.
-/
import Derived.Test.YtphpciglpnbblaaDoorTD
import Derived.Laws.MakeOwn
namespace Go.Proofs.YtphpciglpnbblaaDoor
open Go.RowKit Go.Shelf

set_option maxRecDepth 100000 in
theorem makes (u : World) (base N : Nat) (hb : base ≤ u.heap.size) (hN : N ≤ 1000000) :
    (Go.Instr.makeSlice 25 (.int .i64 0) (.int .i64 (N : Int))).run Tryd.prog u = .ok (.slice (some ⟨u.heap.size, 0, none⟩) 0 N) (u.alloc (.cells (madeCells #[.int .u8 0] N) 5)) ∧
    Owns (u.alloc (.cells (madeCells #[.int .u8 0] N) 5)) base 5 byt (.slice (some ⟨u.heap.size, 0, none⟩) 0 N) [] := by
  obtain ⟨i0, hi, hz0, hz1, hz2⟩ := info_parts Tryd.info_byte
  obtain ⟨w', h1, h2, _⟩ := run_make_own u base 25 5 i0 (.int .u8 0) 1 Tryd.underlying25 hi hz0 hz1 .i64 .i64 N (by rw [hz2]; omega) (by unfold maxLen; omega) hb
  have h3 := run_make u 25 5 i0 (.int .u8 0) Tryd.underlying25 hi hz0 .i64 .i64 0 N (by omega) (by omega) (by rw [hz2]; omega) (by omega)
  rw [hz1] at h3
  rw [h1] at h3
  rw [Int.toNat_natCast, Nat.mul_one] at h3
  injection h3 with _ e
  subst e
  exact ⟨h1, h2⟩
/-- the bytes of some comments -/
def cmB (l : List ByteArray) : List Nat := (l.map fun s => le s.size ++ nb s).flatten
theorem cmB_snoc (l : List ByteArray) (s : ByteArray) : cmB (l ++ [s]) = cmB l ++ (le s.size ++ nb s) := by simp [cmB]
theorem cmB_len : ∀ l : List ByteArray, (cmB l).length = szL l
  | [] => rfl
  | s :: l => by
    have := cmB_len l
    unfold cmB szL at *
    rw [List.map_cons, List.flatten_cons, List.length_append, this, List.length_append, le_len, nb_len]
    simp
/-- the bytes of comments -/
def wrC (V : ByteArray) (l : List ByteArray) : List Nat := le V.size ++ nb V ++ le l.length ++ cmB l
theorem wrC_lt (V : ByteArray) (l : List ByteArray) : ∀ x ∈ wrC V l, x < 256 := fun x hx => by
  unfold wrC cmB at hx
  rcases List.mem_append.1 hx with h | h
  · rcases List.mem_append.1 h with h | h
    · rcases List.mem_append.1 h with h | h
      · exact le_lt _ x h
      · exact nb_lt _ x h
    · exact le_lt _ x h
  · obtain ⟨y, hy, h⟩ := List.mem_flatten.1 h
    obtain ⟨s, _, rfl⟩ := List.mem_map.1 hy
    rcases List.mem_append.1 h with h | h
    · exact le_lt _ x h
    · exact nb_lt _ x h
theorem wrC_len (V : ByteArray) (l : List ByteArray) : (wrC V l).length = 8 + V.size + szL l := by
  unfold wrC
  rw [List.length_append, List.length_append, List.length_append, le_len, le_len, nb_len, cmB_len]
  omega
/-- what Write answers -/
def WtR (w : World) (E : Int) (ys : List Nat) (e : Ending) (w' : World) : Prop := (∃ v, e = .returned (.tuple #[v, iv E]) ∧ Owns w' w.heap.size 5 byt v (if E = 0 then ys else [])) ∧ Only Nix w w'
def WtRel (w : World) (pre : List Nat) (l : List ByteArray) (s5 s33 : Value) (wr : World) : Prop := ∃ j : Nat, j ≤ l.length ∧ s33 = iv j ∧ Owns wr w.heap.size 5 byt s5 (pre ++ cmB (l.take j)) ∧ Only Nix w wr
set_option maxRecDepth 100000 in
set_option maxHeartbeats 8000000 in
theorem write_any {w : World} {V : ByteArray} {x : Value} {l : List ByteArray} (hs : SSrc w x l) (hz : 8 + V.size + szL l ≤ 80000) (hT : Tabs w) :
    Calls Tryd.prog 9 #[cmV V x] w fun e w' => WtR w (ckE V l) (wrC V l) e w' := by
  obtain ⟨A, c, rfl, hcap⟩ := hs.slice
  have hsm := hs.small
  obtain ⟨W1, hW1⟩ : ∃ W1, w.alloc (.cells #[.string V, .slice A l.length c] 24) = W1 := ⟨_, rfl⟩
  have b1 := Box.new w 24 #[.string V, .slice A l.length c]
  have a1 := Lib.hid ((Only.refl Nix w).alloc (.cells #[.string V, .slice A l.length c] 24))
  have HS := Lib.hid (hs.nix a1.out)
  have HS0 := Lib.hid hs
  rw [hW1] at b1 a1 HS
  have c0 := b1.cell 0
  have c1 := b1.cell 1
  simp only [List.getElem?_toArray, List.getElem?_cons_zero, List.getElem?_cons_succ] at c0 c1
  have HB := Lib.hid b1
  have H1 := Lib.hid (check_any (V := V) HS.out (by omega) (by omega) (hT.nix a1.out))
  have H2 : Hid (∀ u, Only Nix W1 u → Calls Tryd.prog 25 #[.agg #[.string V, .slice A l.length c]] u fun e w' => e = .returned (iv ((8 + V.size + szL l : Nat) : Int)) ∧ Only Nix u w') := Lib.hid (fun u hu => size_any (V := V) (HS.out.nix hu) (by omega) (by omega))
  have HZ := Lib.hid hz
  have HLt : Hid (∀ j, szL (l.take j) ≤ szL l) := Lib.hid (fun j => szL_take l j)
  have HTl : Hid (l.take l.length = l) := Lib.hid (List.take_length)
  obtain ⟨Z, hZ⟩ : ∃ Z, 8 + V.size + szL l = Z := ⟨_, rfl⟩
  rw [hZ] at H2
  have hZ80 : Z ≤ 80000 := by omega
  have hVs : V.size ≤ 80000 := by omega
  have hLn : l.length ≤ 80000 := by
    have h1 := cmB_len l
    have h2 : ∀ l : List ByteArray, l.length ≤ szL l := fun l => by
      induction l with
      | nil => simp
      | cons s l ih => simp [szL] at *; omega
    have := h2 l
    omega
  have HWr : Hid (wrC V l = (le V.size ++ nb V ++ le l.length) ++ cmB l) := Lib.hid rfl
  rcases ckE_cases V l with hE | hE
  · rw [hE] at H1 ⊢
    clear b1 hs hcap hT hZ hz hE
    go_enter Tryd.func9, Tryd.ntmps9
    go_wp2_with fail
    refine (H1.out).mono ?_
    rintro e w1 ⟨rfl, ho⟩
    have HO := Lib.hid ho
    have HN := Lib.hid (H2.out w1 ho)
    have c0' := cell_keep ho c0
    have c1' := cell_keep ho c1
    clear ho c0 c1
    go_wp2_with fail
    refine (HN.out).mono ?_
    rintro e w2 ⟨rfl, ho⟩
    have HO2 := Lib.hid (HO.out.trans ho)
    have hb2 := HB.out.only HO2.out (fun e => e)
    have hmk := (makes w2 w.heap.size Z (Nat.le_trans a1.out.size HO2.out.size) (by omega)).1
    have hM3 := Lib.hid (makes w2 w.heap.size Z (Nat.le_trans a1.out.size HO2.out.size) (by omega)).2
    have hO3 := Lib.hid ((a1.out.trans HO2.out).alloc (.cells (madeCells #[.int .u8 0] Z) 5))
    have hb3 := hb2.alloc (.cells (madeCells #[.int .u8 0] Z) 5)
    obtain ⟨W3, hW3⟩ : ∃ W3, w2.alloc (.cells (madeCells #[.int .u8 0] Z) 5) = W3 := ⟨_, rfl⟩
    rw [hW3] at hmk hM3 hO3 hb3
    have HB3 := Lib.hid hb3
    have c0 := hb3.cell 0
    have c1 := hb3.cell 1
    simp only [List.getElem?_toArray, List.getElem?_cons_zero, List.getElem?_cons_succ] at c0 c1
    have HP1 := Lib.hid (putLow_any V.size hM3.out hO3.out.size (by omega) (by simp))
    clear ho hb2 hb3 c0' c1'
    go_wp2_with fail
    refine (HP1.out).mono ?_
    rintro e w4 ⟨v4, rfl, h4, o4, m4⟩
    have hO4 := Lib.hid (row_nix hO3.out o4 (fun g hg => (hM3.out.lt hg).1))
    have hb4 := HB3.out.only o4 (owns_box hM3.out HB3.out (by decide))
    have HM4 : Hid (Owns w4 w.heap.size 5 byt v4 (le V.size)) := Lib.hid (by simpa using h4)
    have HB4 := Lib.hid hb4
    have d0 := hb4.cell 0
    have d1 := hb4.cell 1
    simp only [List.getElem?_toArray, List.getElem?_cons_zero, List.getElem?_cons_succ] at d0 d1
    clear c0 c1 h4 o4 m4 hb4
    go_wp2_with (at_builtin; refine app_str rfl (.tmp 21) (.tmp 23) rfl w.heap.size v4 (le V.size) rfl HM4.out V rfl ?len5 hO4.out.size ?rest5)
    case len5 => have := HZ.out; rw [le_len]; omega
    case rest5 =>
      intro v5 w5 h5 g5 m5
      have o5 := (grow_row0 g5 m5).1
      have hO5 := Lib.hid (row_nix hO4.out o5 (fun g hg => (HM4.out.lt hg).1))
      have hb5 := HB4.out.only o5 (owns_box HM4.out HB4.out (by decide))
      have HM5 := Lib.hid h5
      have HB5 := Lib.hid hb5
      have c0 := hb5.cell 0
      have c1 := hb5.cell 1
      simp only [List.getElem?_toArray, List.getElem?_cons_zero, List.getElem?_cons_succ] at c0 c1
      have HP6 := Lib.hid (putLow_any l.length HM5.out hO5.out.size (by omega) (by have := HZ.out; simp only [List.length_append, le_len, nb_len]; omega))
      clear d0 d1 h5 o5 g5 m5 hb5
      go_wp2_with fail
      refine (HP6.out).mono ?_
      rintro e w6 ⟨v6, rfl, h6, o6, m6⟩
      have hO6 := Lib.hid (row_nix hO5.out o6 (fun g hg => (HM5.out.lt hg).1))
      have hb6 := HB5.out.only o6 (owns_box HM5.out HB5.out (by decide))
      have HM6 := Lib.hid h6
      have d0 := hb6.cell 0
      have d1 := hb6.cell 1
      simp only [List.getElem?_toArray, List.getElem?_cons_zero, List.getElem?_cons_succ] at d0 d1
      have HPl : Hid ((le V.size ++ nb V ++ le l.length).length = 8 + V.size) := Lib.hid (by simp only [List.length_append, le_len, nb_len]; omega)
      generalize le V.size ++ nb V ++ le l.length = pre at *
      clear c0 c1 h6 o6 m6 hb6
      go_wp2
      go_loopw [5, 33] (fun s5 s33 wr => WtRel w pre l s5 s33 wr) (fun _ s33 _ => l.length - (intOf s33).toNat)
      case atStart => exact ⟨0, Nat.zero_le _, rfl, by simpa [cmB] using HM6.out, hO6.out⟩
      case round =>
        obtain ⟨j, hj, rfl, hown, ho⟩ := hrel
        have HW := Lib.hid hown
        have HOj := Lib.hid ho
        by_cases hlt : j < l.length
        · obtain ⟨ad, rfl, hx⟩ := (HS0.out.nix ho).at_ hlt
          have hlti : (j : Int) < (l.length : Int) := by omega
          have HTk := Lib.hid (List.take_succ_eq_append_getElem hlt)
          have HLj := Lib.hid (HLt.out (j + 1))
          rw [HTk.out, szL_snoc] at HLj
          generalize l[j] = s at *
          have hss : s.size ≤ 80000 := by have := HLj.out; have := HZ.out; omega
          have hlen : (pre ++ cmB (l.take j)).length + 4 + s.size ≤ 80000 := by
            have := HLj.out; have := HZ.out; have := HPl.out; rw [List.length_append, cmB_len]; omega
          have HLen := Lib.hid hlen
          have HPj := Lib.hid (putLow_any s.size hown ho.size (by omega) (by omega))
          have hcb : Hid (pre ++ cmB (l.take (j + 1)) = pre ++ cmB (l.take j) ++ le s.size ++ nb s) := Lib.hid (by rw [HTk.out, cmB_snoc]; simp only [List.append_assoc])
          clear hown ho hlen
          go_wp2_with fail
          refine (HPj.out).mono ?_
          rintro e w7 ⟨v7, rfl, h7, o7, m7⟩
          have hO7 := Lib.hid (row_nix HOj.out o7 (fun g hg => (HW.out.lt hg).1))
          have HM7 := Lib.hid h7
          clear h7 o7 m7 hx
          go_wp2_with (at_builtin; refine app_str rfl (.tmp 41) (.tmp 42) rfl w.heap.size v7 (pre ++ cmB (l.take j) ++ le s.size) rfl HM7.out s rfl ?len8 hO7.out.size ?rest8)
          case len8 => have := HLen.out; rw [List.length_append, le_len]; omega
          case rest8 =>
            intro v8 w8 h8 g8 m8
            have hO8 := Lib.hid (row_nix hO7.out (grow_row0 g8 m8).1 (fun g hg => (HM7.out.lt hg).1))
            have HM8 := Lib.hid h8
            clear h8 g8 m8
            go_wp2
            go_roundw
            case rel => exact ⟨j + 1, hlt, by go_num, by rw [hcb.out]; simpa only [List.append_assoc] using HM8.out, hO8.out⟩
            case measure => simp [intOf]; omega
        · have hd : decide (j < l.length) = false := by simp; omega
          obtain rfl : j = l.length := by omega
          have HF : Hid (WtR w 0 (wrC V l) (.returned (.tuple #[u5, iv 0])) wr) := Lib.hid ⟨⟨_, rfl, by rw [if_pos rfl, HWr.out]; have h := HW.out; rw [HTl.out] at h; exact h⟩, HOj.out⟩
          clear hown ho
          go_wp2
          go_ret2
          exact HF.out
  · rw [hE] at H1 ⊢
    clear b1 hs hcap hT hZ hz hE
    go_enter Tryd.func9, Tryd.ntmps9
    go_wp2_with fail
    refine (H1.out).mono ?_
    rintro e w1 ⟨rfl, ho⟩
    have HF : Hid (WtR w 12 (wrC V l) (.returned (.tuple #[.slice none 0 0, iv 12])) w1) := Lib.hid ⟨⟨_, rfl, by rw [if_neg (by decide)]; exact Owns.nil _ _ _ _⟩, a1.out.trans ho⟩
    clear ho
    go_wp2
    go_ret2
    exact HF.out
end Go.Proofs.YtphpciglpnbblaaDoor
