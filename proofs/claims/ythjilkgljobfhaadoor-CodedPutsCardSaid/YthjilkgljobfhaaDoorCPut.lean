/-
  Put, walked.
-/
import Derived.Test.YthjilkgljobfhaaDoorCode
import Derived.Deep.OwnRows
namespace Go.Proofs.YthjilkgljobfhaaDoor
open Go.RowKit

set_option maxHeartbeats 400000 in
theorem put_no {w : World} (z : Int) (hz : z < 0 ∨ 68719476735 < z) :
    Calls Tryd.prog 7 #[iv z] w fun e w' => e = .returned (.tuple #[.slice none 0 0, iv 10]) ∧ w = w' := by
  go_enter Tryd.func7, Tryd.ntmps7
  go_wp2_with fail
  refine (len_no z hz).mono ?_
  rintro e w1 ⟨rfl, rfl⟩
  go_wp2
  go_ret2
  exact ⟨rfl, rfl⟩

theorem Tryd.info_byte : (Tryd.prog.info? 5).map (fun i => (i.zero, i.size, i.bytes)) = some (some (.int .u8 0), 1, 1) := by kernel_rfl
theorem made_byte (S : Nat) : madeCells #[.int .u8 0] S = (List.replicate S (byt 0)).toArray := by
  apply Array.ext
  · simp [madeCells]
  · intro i h1 h2
    simp [madeCells, byt, Nat.mod_one]
/-- one byte more -/
theorem put_cells (n S j x : Nat) (hS : (cd n).length = S) (hj : j < S) (hx : (cd n)[j]? = some x) :
    (((cd n).take j).map byt ++ List.replicate (S - j) (byt 0)).toArray.setIfInBounds j (byt x) = (((cd n).take (j + 1)).map byt ++ List.replicate (S - (j + 1)) (byt 0)).toArray := by
  have hl : (((cd n).take j).map byt).length = j := by rw [List.length_map, List.length_take]; omega
  have ht : (cd n).take (j + 1) = (cd n).take j ++ [x] := by
    rw [List.take_add_one, hx]; rfl
  obtain ⟨r, hr⟩ : ∃ r, S - j = r + 1 := ⟨S - j - 1, by omega⟩
  rw [List.setIfInBounds_toArray, List.set_append_right _ _ (by omega), hl, Nat.sub_self, ht, hr, show S - (j + 1) = r from by omega, List.replicate_succ, List.set_cons_zero]
  simp
/-- j bytes are laid -/
def PutP (w : World) (n S : Nat) (s24 : Value) (wr : World) : Prop :=
  ∃ j : Nat, j ≤ S ∧ s24 = iv j ∧ Box wr (w.heap.size + 1 + 1) 5 (((cd n).take j).map byt ++ List.replicate (S - j) (byt 0)).toArray ∧ Box wr w.heap.size 3 #[iv n] ∧ Box wr (w.heap.size + 1) 3 #[iv S] ∧ Only Nix w wr

set_option maxHeartbeats 1000000 in
theorem put_yes {w : World} (hL : Laid w) (n : Nat) (hn : n < 68719476736) :
    Calls Tryd.prog 7 #[iv n] w fun e w' => ∃ g, w.heap.size ≤ g ∧ e = .returned (.tuple #[.slice (some ⟨g, 0, none⟩) (szOf n) (szOf n), iv 0]) ∧ Box w' g 5 ((cd n).map byt).toArray ∧ Only Nix w w' := by
  have hz := szOf_bd n
  have hlen := Lib.hid (cd_len n)
  have hcl := Lib.hid (cd_lt n hn)
  have HL := Lib.hid hL
  have HLO : Hid (∀ u, Only Nix w u → Laid u) := fun u o => HL.out.nix o
  clear hL
  go_enter Tryd.func7, Tryd.ntmps7
  go_wp2_with fail
  refine (len_yes HL.out n _ rfl hn).mono ?_
  rintro e w1 ⟨rfl, rfl⟩
  generalize hS : szOf n = S at *
  have HS := Lib.hid hS
  clear hS
  go_wp2_with fail
  refine (code_any n S).mono ?_
  rintro e w1 ⟨rfl, rfl⟩
  have hmk := run_make_row' (P := Tryd.prog) 22 5 (.int .u8 0) 1 Tryd.underlying22 Tryd.info_byte rfl .i64 .i64 S (by omega) (by omega)
  go_wp2
  clear hmk
  go_loopw [24] (fun s24 wr => PutP w n S s24 wr) (fun s24 _ => S - (intOf s24).toNat)
  case atStart =>
    refine ⟨0, by omega, rfl, ?_, ?_, ?_, (((Only.refl _ _).alloc _).alloc _).alloc _⟩
    · have := Box.new ((w.alloc (.cells #[iv n] 3)).alloc (.cells #[iv S] 3)) 5 (madeCells #[.int .u8 0] S)
      rw [made_byte] at this ⊢
      simpa using this
    · exact ((Box.new w _ _).alloc _).alloc _
    · have := (Box.new (w.alloc (.cells #[iv n] 3)) 3 #[iv S]).alloc (.cells (madeCells #[.int .u8 0] S) 5)
      rw [World.size_alloc] at this
      exact this
  case round =>
    obtain ⟨j, hj, rfl, hB, hBn, hBS, ho⟩ := hrel
    by_cases hlt : j < S
    · obtain ⟨x, hx⟩ : ∃ x, (cd n)[j]? = some x := ⟨_, List.getElem?_eq_getElem (by rw [hlen.out]; exact hlt)⟩
      have hx256 := hcl.out x (List.mem_of_getElem? hx)
      have HC := Lib.hid (code1_any (HLO.out _ ho) n j S x ⟨w.heap.size, 0, none⟩ ⟨w.heap.size + 1, 0, none⟩ (by rw [hBn.cell]; rfl) (by rw [hBS.cell]; rfl) HS.out.symm hn hlt hx)
      have HP := Lib.hid (put_cells n S j x hlen.out hlt hx)
      have hcell := hB.cell j
      have hfr := hB.frozen j
      have hcj : (((cd n).take j).map byt ++ List.replicate (S - j) (byt 0)).toArray[j]? = some (byt 0) := by
        have hl : (((cd n).take j).map byt).length = j := by rw [List.length_map, List.length_take, hlen.out]; omega
        rw [List.getElem?_toArray, List.getElem?_append_right (by omega), hl, Nat.sub_self, List.getElem?_replicate, if_pos (by omega)]
      rw [hcj] at hcell
      have hlt2 : (j : Int) < (S : Int) := by omega
      have HB := Lib.hid hB
      have HBn := Lib.hid hBn
      have HBS := Lib.hid hBS
      clear hx hB hBn hBS hcj
      go_wp2_with fail
      refine (HC.out).mono ?_
      rintro e w2 ⟨rfl, rfl⟩
      go_wp2
      go_roundw
      case rel =>
        refine ⟨j + 1, by omega, by go_num, ?_, HBn.out.off (by simp; omega) _, HBS.out.off (by simp) _, ho.setCell (.inr (by simp; omega)) _⟩
        rw [← HP.out]
        exact HB.out.put j (byt x)
      case measure => simp [intOf]; omega
    · obtain rfl : j = S := by omega
      have hlt2 : decide (j < j) = false := by simp
      go_wp2
      go_ret2
      have hT : (cd n).take j = cd n := List.take_of_length_le (by rw [hlen.out]; exact Nat.le_refl _)
      rw [hT, Nat.sub_self, List.replicate_zero, List.append_nil] at hB
      exact ⟨w.heap.size + 1 + 1, by omega, by rw [HS.out]; rfl, hB, ho⟩

/-- a block of bytes, as a slice -/
theorem src_box {w : World} {g m c : Nat} {bs : List Nat} (h : Box w g 5 (bs.map byt).toArray) (hm : bs.length = m) (hs : bs.length ≤ 140737488355328) (hlt : ∀ x ∈ bs, x < 256) : Src w (.slice (some ⟨g, 0, none⟩) m c) bs := by
  refine Src.of_cells hm (fun j hj => ?_) hs hlt
  rw [h.cell, Nat.zero_add]
  simp [hj]
theorem src_cd {w : World} {g n : Nat} (hn : n < 68719476736) (h : Box w g 5 ((cd n).map byt).toArray) : Src w (.slice (some ⟨g, 0, none⟩) (szOf n) (szOf n)) (cd n) := by
  have := szOf_bd n
  have hl := cd_len n
  exact src_box h hl (by omega) (cd_lt n hn)
end Go.Proofs.YthjilkgljobfhaaDoor
