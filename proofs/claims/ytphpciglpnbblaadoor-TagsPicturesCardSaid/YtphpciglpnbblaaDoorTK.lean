/-
  The chapter's example.
-/
import Derived.Test.YtphpciglpnbblaaDoorTJ
import Derived.Test.YtphpciglpnbblaaDoorTE
namespace Go.Proofs.YtphpciglpnbblaaDoor
open Go.RowKit Go.Shelf

abbrev exX : ByteArray := ⟨#[120]⟩
abbrev exA : ByteArray := ⟨#[65, 61, 98]⟩
def exW : List Nat := [1, 0, 0, 0, 120, 1, 0, 0, 0, 3, 0, 0, 0, 65, 61, 98]
theorem ex_ck : ckE exX [exA] = 0 := by decide +kernel
theorem ex_wr : wrC exX [exA] = exW := by decide +kernel
theorem ex_gt : gtL ⟨#[97]⟩ [exA] = [⟨#[98]⟩] := by decide +kernel
theorem one_text (w : World) (s : ByteArray) : SSrc (w.alloc (.cells #[.string s] 9)) (.slice (some ⟨w.heap.size, 0, none⟩) 1 1) [s] :=
  ⟨⟨_, 1, rfl, Nat.le_refl _, fun j hj => by
    obtain rfl : j = 0 := by simpa using hj
    exact ⟨_, rfl, by rw [Addr.add_lit]; exact (Box.new w 9 #[.string s]).cell 0⟩⟩, by simp⟩
theorem ex_lit (w : World) : Src (w.alloc (.cells (exW.map byt).toArray 5)) (.slice (some ⟨w.heap.size, 0, none⟩) 16 16) exW := by
  refine Src.of_cells rfl (fun j hj => ?_) (by decide) (by decide)
  rw [Nat.zero_add, (Box.new w 5 (exW.map byt).toArray).cell]
  simp [hj]
set_option maxRecDepth 100000 in
set_option maxHeartbeats 8000000 in
theorem awake_any {w : World} (hT : Tabs w) : Calls Tryd.prog 8 #[] w fun e w' => e = .returned (.bool true) ∧ Only Nix w w' := by
  obtain ⟨W1, hW1⟩ : ∃ W1, w.alloc (.cells #[.string exA] 9) = W1 := ⟨_, rfl⟩
  have o1 := (Only.refl Nix w).alloc (.cells #[.string exA] 9)
  have s1 := one_text w exA
  rw [hW1] at o1 s1
  obtain ⟨W2, hW2⟩ : ∃ W2, W1.alloc (.cells #[.string exX, .slice (some ⟨w.heap.size, 0, none⟩) 1 1] 24) = W2 := ⟨_, rfl⟩
  have o2 := o1.alloc (.cells #[.string exX, .slice (some ⟨w.heap.size, 0, none⟩) 1 1] 24)
  have s2 := s1.nix ((Only.refl Nix W1).alloc (.cells #[.string exX, .slice (some ⟨w.heap.size, 0, none⟩) 1 1] 24))
  have b2 := Box.new W1 24 #[.string exX, .slice (some ⟨w.heap.size, 0, none⟩) 1 1]
  rw [hW2] at o2 s2 b2
  have c0 := b2.cell 0
  have c1 := b2.cell 1
  simp only [List.getElem?_toArray, List.getElem?_cons_zero, List.getElem?_cons_succ] at c0 c1
  have HWr := Lib.hid (write_any (V := exX) s2 (by decide) (hT.nix o2))
  rw [ex_ck, ex_wr] at HWr
  have HO2 := Lib.hid o2
  have HS2 := Lib.hid s2
  have HB2 := Lib.hid b2
  have HT := Lib.hid hT
  have HGt : Hid (∀ u, Only Nix W2 u → Calls Tryd.prog 23 #[.agg #[.string exX, .slice (some ⟨w.heap.size, 0, none⟩) 1 1], .string ⟨#[97]⟩] u fun e w' => GtR u [⟨#[98]⟩] e w') := Lib.hid (fun u hu => by
    have := get_any (V := exX) (nm := ⟨#[97]⟩) (s2.nix hu) (by decide) (by decide) (by decide) (hT.nix (o2.trans hu))
    rw [ex_gt] at this
    exact this)
  clear o1 s1 o2 s2 b2 hT
  go_enter Tryd.func8, Tryd.ntmps8
  go_wp2_with fail
  refine (HWr.out).mono ?_
  rintro e w3 ⟨⟨v3, rfl, h3⟩, ho⟩
  rw [if_pos rfl] at h3
  have HO3 := Lib.hid ho
  have HS3 := Lib.hid ((h3.csrc (by decide) (by decide)).src)
  obtain ⟨A3, c3, rfl⟩ := HS3.out.slice
  have hb3 := HB2.out.only ho (fun e => e)
  have HB3 := Lib.hid hb3
  have hel := ex_lit w3
  have ho4 := (Only.refl Nix w3).alloc (.cells (exW.map byt).toArray 5)
  have hw4 : (w3.alloc (.cells (exW.map byt).toArray 5)) = w3.alloc (.cells #[.int .u8 1, .int .u8 0, .int .u8 0, .int .u8 0, .int .u8 120, .int .u8 1, .int .u8 0, .int .u8 0, .int .u8 0, .int .u8 3, .int .u8 0, .int .u8 0, .int .u8 0, .int .u8 65, .int .u8 61, .int .u8 98] 5) := rfl
  rw [hw4] at hel ho4
  obtain ⟨W4, hW4⟩ : ∃ W4, w3.alloc (.cells #[.int .u8 1, .int .u8 0, .int .u8 0, .int .u8 0, .int .u8 120, .int .u8 1, .int .u8 0, .int .u8 0, .int .u8 0, .int .u8 3, .int .u8 0, .int .u8 0, .int .u8 0, .int .u8 65, .int .u8 61, .int .u8 98] 5) = W4 := ⟨_, rfl⟩
  rw [hW4] at hel ho4
  have HBy := Lib.hid (equal_at (HS3.out.nix ho4) hel)
  have HO4 := Lib.hid (ho.trans ho4)
  clear h3 ho hb3 hel ho4 hw4 c0 c1
  go_wp2_with fail
  refine (HBy.out).mono ?_
  rintro e w5 ⟨rfl, ho⟩
  have HO5 := Lib.hid (HO4.out.trans ho)
  have HGt5 := Lib.hid (HGt.out w5 HO5.out)
  have hb5 := HB2.out.only HO5.out (fun e => e)
  have c0 := hb5.cell 0
  have c1 := hb5.cell 1
  simp only [List.getElem?_toArray, List.getElem?_cons_zero, List.getElem?_cons_succ] at c0 c1
  clear ho hb5
  go_wp2_with fail
  refine (HGt5.out).mono ?_
  rintro e w6 ⟨⟨v6, rfl, h6⟩, ho⟩
  have HS6 := Lib.hid (h6.texts (by decide))
  obtain ⟨A6, c6, rfl, _⟩ := HS6.out.slice
  have HO6 := Lib.hid (HO5.out.trans ho)
  have hel := one_text w6 ⟨#[98]⟩
  have ho7 := (Only.refl Nix w6).alloc (.cells #[.string ⟨#[98]⟩] 9)
  obtain ⟨W7, hW7⟩ : ∃ W7, w6.alloc (.cells #[.string ⟨#[98]⟩] 9) = W7 := ⟨_, rfl⟩
  rw [hW7] at hel ho7
  have HTx := Lib.hid (texts_at (HS6.out.nix ho7) hel)
  have HO7 := Lib.hid (HO6.out.trans ho7)
  clear h6 ho hel ho7 c0 c1
  go_wp2_with fail
  refine (HTx.out).mono ?_
  rintro e w8 ⟨rfl, ho⟩
  have HO8 := Lib.hid (HO2.out.trans (HO7.out.trans ho))
  clear ho
  go_wp2
  go_ret
  exact ⟨rfl, HO8.out⟩
end Go.Proofs.YtphpciglpnbblaaDoor
