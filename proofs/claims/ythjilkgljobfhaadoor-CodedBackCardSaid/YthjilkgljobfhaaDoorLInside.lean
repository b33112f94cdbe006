/-
  CodedInside, walked.
-/
import Derived.Test.YthjilkgljobfhaaDoorCApp
import Derived.Test.YthjilkgljobfhaaDoorLOrder
namespace Go.Proofs.YthjilkgljobfhaaDoor
open Go.RowKit

/-- Put, as a row of the call's own -/
theorem put_own {u : World} (hL : Laid u) (n : Nat) (hn : n < 68719476736) :
    Calls Tryd.prog 7 #[iv (n : Int)] u fun e w' => ∃ g, e = .returned (.tuple #[.slice (some ⟨g, 0, none⟩) (cd n).length (cd n).length, iv 0]) ∧ w'.ownsRow u.heap.size 5 1 (.slice (some ⟨g, 0, none⟩) (cd n).length (cd n).length) (cd n).length ((cd n).map byt) ∧ Only Nix u w' := by
  refine (put_yes hL n hn).mono ?_
  rintro e w' ⟨g, hg, he, hB, ho⟩
  have hl := cd_len n
  have hz := szOf_bd n
  refine ⟨g, by rw [hl]; exact he, box_owns hB hg (by omega), ho⟩
theorem src_drop {w : World} {g o n c k m d : Nat} {bs : List Nat} (h : Src w (.slice (some ⟨g, o, none⟩) n c) bs) (hm : n - k = m) : Src w (.slice (some ⟨g, o + k, none⟩) m d) (bs.drop k) := by
  have hl := h.len
  refine Src.of_cells (by rw [List.length_drop]; omega) (fun j hj => ?_) (by have := h.small; rw [List.length_drop]; omega) (fun x hx => h.lt x (List.mem_of_mem_drop hx))
  rw [List.length_drop] at hj
  obtain ⟨ad, e, hc⟩ := h.at_ (k := k + j) (by omega)
  injection e with e
  subst e
  rw [Addr.add_lit] at hc
  rw [Nat.add_assoc, hc, List.getElem_drop]
theorem src_drop0 {w : World} {g n c k m d : Nat} {bs : List Nat} (h : Src w (.slice (some ⟨g, 0, none⟩) n c) bs) (hm : n - k = m) : Src w (.slice (some ⟨g, k, none⟩) m d) (bs.drop k) := by
  have := src_drop (d := d) h hm
  rwa [Nat.zero_add] at this
theorem src_take {w : World} {g o n c m d : Nat} {bs : List Nat} (h : Src w (.slice (some ⟨g, o, none⟩) n c) bs) (hm : m ≤ n) : Src w (.slice (some ⟨g, o, none⟩) m d) (bs.take m) := by
  have hl := h.len
  refine Src.of_cells (by rw [List.length_take]; omega) (fun j hj => ?_) (by have := h.small; rw [List.length_take]; omega) (fun x hx => h.lt x (List.mem_of_mem_take hx))
  rw [List.length_take] at hj
  obtain ⟨ad, e, hc⟩ := h.at_ (k := j) (by omega)
  injection e with e
  subst e
  rw [Addr.add_lit] at hc
  rw [hc, List.getElem_take]

def InsP (w : World) (S : Nat) (s8 : Value) (wr : World) : Prop := ∃ j : Nat, 1 ≤ j ∧ j ≤ S ∧ s8 = iv j ∧ Only Nix w wr

set_option maxHeartbeats 1000000 in
theorem inside_in {w : World} (hL : Laid w) (n : Nat) (hn : n < 68719476736) (A : Option Addr) (c : Nat) (bs : List Nat) (hS : Src w (.slice A bs.length c) bs) (hb : bs.length ≤ 20) :
    Calls Tryd.prog 6 #[iv n, .slice A bs.length c] w fun e w' => e = .returned (.bool true) ∧ Only Nix w w' := by
  have HL : Hid (∀ u, Only Nix w u → Laid u) := fun u o => hL.nix o
  have Hs := Lib.hid hS
  have hsz := cd_len n
  have hbd := szOf_bd n
  have hins := Lib.hid (fun i a b => get_inside n i a b bs)
  have hlt := Lib.hid (cd_lt n hn)
  clear hL hS
  have hb2 : ¬ (20 : Int) < (bs.length : Int) := by omega
  go_enter Tryd.func6, Tryd.ntmps6
  go_wp2_with fail
  refine (put_own (HL.out _ (Only.refl _ _)) n hn).mono ?_
  rintro e w1 ⟨g, rfl, hown, o1⟩
  have HO := Lib.hid hown
  have hS1 := Lib.hid (Hs.out.nix o1)
  clear hown
  rw [hsz] at HO ⊢
  generalize hZ : szOf n = S at *
  clear hZ
  have hd1 : (S : Int) ≥ 1 := by omega
  have hd7 : (S : Int) ≤ 7 := by omega
  have hsize := o1.size
  go_wp2_with (at_builtin; refine wpList_append_bytes rfl (.tmp 27) (.tmp 28) rfl w.heap.size (.slice (some ⟨g, 0, none⟩) S S) S ((cd n).map byt) rfl HO.out A bs.length c bs rfl hS1.out (by omega) hsize ?rest)
  case rest =>
    intro v2 w2 hown2 hgr _
    obtain ⟨g2, c2, rfl, hg2, hle⟩ := owns_none hown2 (by omega)
    rw [← List.map_append] at hown2
    have hsrc := owns_src hown2 (by rw [List.length_append]; omega) (fun x hx => by
      rcases List.mem_append.1 hx with h3 | h3
      · exact hlt.out x h3
      · exact hS1.out.lt x h3)
    have o2 : Only Nix w w2 := o1.grown hgr (fun k hk => .inr (by
      have := HO.out.lt k hk
      exact this.1))
    have Hsrc := Lib.hid hsrc
    clear hown2 hgr hsrc HO hS1
    go_wp2
    go_loopw [8] (fun s8 wr => InsP w2 S s8 wr) (fun s8 _ => S - (intOf s8).toNat)
    case atStart => exact ⟨1, Nat.le_refl _, by omega, rfl, Only.refl _ _⟩
    case round =>
      obtain ⟨j, hj1, hj2, rfl, ho⟩ := hrel
      by_cases hlt : j < S
      · have d1 : (j : Int) < (S : Int) := by omega
        have d2 : (j : Int) < (S : Int) + (bs.length : Int) := by omega
        have d3 : ¬ c2 = j := by omega
        have HG := Lib.hid (get_at (HL.out _ (o2.trans ho)) (some ⟨g2, j, none⟩) (S + bs.length - j) (c2 - j) _ 0 0 12 (src_drop0 (Hsrc.out.nix ho) rfl) (hins.out j hj1 hlt))
        go_wp2_with fail
        refine (HG.out).mono ?_
        rintro e w3 ⟨rfl, o3⟩
        go_wp2
        go_roundw
        case rel => exact ⟨j + 1, by omega, by omega, by go_num, ho.trans o3⟩
        case measure => simp [intOf]; omega
      · have d1 : decide (j < S) = false := by simp; omega
        go_wp2_with fail
        refine (aw (w := w) (o2.trans ho) (HL.out _ (o2.trans ho))).mono ?_
        rintro e w5 ⟨rfl, o5⟩
        go_wp2
        go_ret
        exact ⟨rfl, o5⟩

set_option maxHeartbeats 1000000 in
theorem codedInside_walk (z : Int) (A : Option Addr) (c : Nat) (bs : List Nat) (w : World) (hL : Laid w) (hS : Src w (.slice A bs.length c) bs) :
    Calls Tryd.prog 6 #[iv z, .slice A bs.length c] w fun e w' => e = .returned (.bool true) ∧ Only Nix w w' := by
  have HL : Hid (∀ u, Only Nix w u → Laid u) := fun u o => hL.nix o
  rcases out_or z with hz | ⟨n, rfl, hn⟩
  · clear hL hS
    have Hz := Lib.hid hz
    clear hz
    go_enter Tryd.func6, Tryd.ntmps6
    go_wp2_with fail
    refine (put_no z Hz.out).mono ?_
    rintro e w1 ⟨rfl, rfl⟩
    go_wp2_with fail
    refine (aw (Only.refl _ _) (HL.out _ (Only.refl _ _))).mono ?_
    rintro e w5 ⟨rfl, o5⟩
    go_wp2
    go_ret
    exact ⟨rfl, o5⟩
  · by_cases hb : bs.length ≤ 20
    · exact inside_in hL n hn A c bs hS hb
    · have hsm := hS.small
      have hb2 : (20 : Int) < (bs.length : Int) := by omega
      clear hL hS
      go_enter Tryd.func6, Tryd.ntmps6
      go_wp2_with fail
      refine (put_src (HL.out _ (Only.refl _ _)) n hn).mono ?_
      rintro e w1 ⟨g1, rfl, s1, o1⟩
      clear s1
      go_wp2_with fail
      refine (aw o1 (HL.out _ o1)).mono ?_
      rintro e w5 ⟨rfl, o5⟩
      go_wp2
      go_ret
      exact ⟨rfl, o5⟩
end Go.Proofs.YthjilkgljobfhaaDoor
