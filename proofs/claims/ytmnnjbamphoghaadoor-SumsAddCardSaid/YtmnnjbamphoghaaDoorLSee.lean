/-
  SumsSee, walked.
-/
import Derived.Test.YtmnnjbamphoghaaDoorLJoin
import Derived.Test.YtmnnjbamphoghaaDoorSeeMath
import Derived.Laws.CopyOwn
import Derived.Deep.OwnRows
import Derived.RegionTactic
namespace Go.Proofs.YtmnnjbamphoghaaDoor
open Go.RowKit

theorem Tryd.info_byte : (Tryd.prog.info? 5).map (fun i => (i.zero, i.size, i.bytes)) = some (some (.int .u8 0), 1, 1) := by kernel_rfl
theorem Tryd.size_byte : (Tryd.prog.info? 5).map (·.size) = some 1 := by kernel_rfl

/-- a row of bytes of one's own -/
abbrev bytes (cs : List Nat) : Array Value := (cs.map byt).toArray
theorem Src.of_box {w : World} {g n c : Nat} {t : TypeId} {cs : List Nat} (h : Box w g t (bytes cs)) (hn : cs.length = n) (hs : cs.length ≤ 140737488355328) (hl : ∀ x ∈ cs, x < 256) : Src w (.slice (some ⟨g, 0, none⟩) n c) cs := by
  refine Src.of_cells hn (fun j hj => ?_) hs hl
  rw [h.cell]
  simp [hj]
theorem see_put {wr : World} {g k x : Nat} {cs : List Nat} (hB : Box wr g 5 (bytes cs)) (hg : cs.getD (k / 8) 0 = x) (hx : x < 256) :
    Box (wr.setCell ⟨g, k / 8, none⟩ (.int .u8 (bits .xor .u8 (x : Int) (128 / 2 ^ (k % 8))))).drew g 5 (bytes (tog cs k)) := by
  have e1 : (128 : Int) / 2 ^ (k % 8) = ((128 / 2 ^ (k % 8) : Nat) : Int) := by rw [pow_cast, Int.natCast_ediv]; rfl
  have hl : 128 / 2 ^ (k % 8) ≤ 128 := Nat.div_le_self _ _
  rw [e1, u8_xor_nat _ _ hx (by omega)]
  have := (hB.put (k / 8) (byt (x ^^^ 128 / 2 ^ (k % 8)))).drew
  have e2 : (bytes cs).setIfInBounds (k / 8) (byt (x ^^^ 128 / 2 ^ (k % 8))) = bytes (tog cs k) := by
    unfold bytes tog
    rw [List.setIfInBounds_toArray, List.map_set, hg]
  rw [e2] at this
  exact this
def SeeRel (w : World) (g : Nat) (bs : List Nat) (k0 : Nat) (s8 s9 s10 : Value) (wr : World) : Prop :=
  ∃ (i : Nat) (cs : List Nat) (wide turned : Bool), i ≤ 16 ∧ s10 = iv i ∧ s8 = .bool wide ∧ s9 = .bool turned ∧ cs.length = bs.length ∧ (∀ x ∈ cs, x < 256) ∧ Box wr g 5 (bytes cs) ∧ SeeBoth bs cs k0 i wide turned ∧ Only Nix w wr

set_option maxHeartbeats 1000000 in
set_option maxRecDepth 100000 in
theorem see_go (A : Option Addr) (c : Nat) (bs : List Nat) (k0 dm : Nat) (w : World) (hL : Laid w) (h : Src w (.slice A bs.length c) bs) (h1 : 1 ≤ bs.length) (h4 : bs.length ≤ 400) (hk : k0 < 8 * bs.length) (hd1 : 1 ≤ dm) (hd2 : dm ≤ 65535) :
    Calls Tryd.prog 6 #[.slice A bs.length c, iv (k0 : Int), iv (dm : Int)] w fun e w' => e = .returned (.bool true) ∧ Only Nix w w' := by
  have d1 : decide ((bs.length : Int) < 1) = false := by simp; omega
  have d2 : decide (400 < (bs.length : Int)) = false := by simp; omega
  have d3 : decide ((k0 : Int) < 0) = false := by simp
  have d4 : decide (8 * (bs.length : Int) ≤ (k0 : Int)) = false := by simp; omega
  have d5 : decide ((dm : Int) < 1) = false := by simp; omega
  have d6 : decide (65535 < (dm : Int)) = false := by simp; omega
  have hmk := fun (u : World) => run_make_row' (P := Tryd.prog) 22 5 (.int .u8 0) 1 Tryd.underlying22 Tryd.info_byte rfl .i64 .i64 bs.length (by omega) (by omega) u
  go_enter Tryd.func6, Tryd.ntmps6
  go_wp2_with (with_reducible refine wpList_copy_splice rfl (.tmp 43) (.tmp 44) 22 22 rfl 5 Tryd.underlying22 Tryd.size_byte (some ⟨w.heap.size, 0, none⟩) A bs.length bs.length bs.length c rfl rfl w.heap.size 0 (madeCells #[.int .u8 0] bs.length).toList 5 ?hg (bs.map byt) ?hn ?hpos ?hfit ?h1 w.heap.size w ?hb ?hBg ?rest)
  case hg => exact heap_alloc_new w _
  case hn => simp
  case hpos =>
    intro _
    (try refine ⟨rfl, ?_⟩)
    obtain ⟨ad, hA, _⟩ := h.at_ (show 0 < bs.length by omega)
    refine ⟨ad, hA, fun j v hv => ?_⟩
    have hj : j < bs.length := by simpa using (List.getElem?_eq_some_iff.1 hv).1
    obtain ⟨ad', hA', hc'⟩ := h.at_ hj
    rw [hA] at hA'
    injection hA' with hA'
    subst hA'
    have hvj : v = bs[j] := by simpa [hj] using hv.symm
    subst hvj
    exact cell_keep ((Only.refl Nix w).alloc _) hc'
  case hfit => simp [size_madeCells]
  case h1 => intro v hv; obtain ⟨x, _, rfl⟩ := List.mem_map.1 hv; rfl
  case hb => exact (Below.refl _ _).alloc (Nat.le_refl _) _
  case hBg => exact Nat.le_refl _
  case rest =>
    intro W1 hW1 hbel
    have o1 : Only Nix w W1 := Only.ofBelow hbel (Nat.le_refl _)
    have hB1 : Box W1 w.heap.size 5 (bytes bs) := by
      have := hW1.out
      unfold Box
      rw [this]
      have e : (splice (madeCells #[Value.int .u8 0] bs.length).toList 0 (bs.map byt)) = bs.map byt := by
        simp [splice, size_madeCells]
      rw [e]
    have Hm := Lib.hid hmk
    clear hW1 hbel d1 d2 d3 d4 d5 d6 hmk
    go_wp2
    go_loopw [8, 9, 10] (fun s8 s9 s10 wr => SeeRel w w.heap.size bs k0 s8 s9 s10 wr) (fun _ _ s10 _ => 16 - (intOf s10).toNat)
    case atStart => exact ⟨0, bs, false, false, by omega, rfl, rfl, rfl, rfl, h.lt, hB1, both_start _ _, o1⟩
    case round =>
      clear hB1 o1
      obtain ⟨i, cs, wide, turned, hi, rfl, rfl, rfl, hl, hlt, hB, hS, ho⟩ := hrel
      have HL := Lib.hid hl
      clear hl
      by_cases hi16 : i < 16
      · obtain ⟨j, hj, hj2⟩ : ∃ j : Nat, 15 - (i : Int) = (j : Int) ∧ j = 15 - i := ⟨15 - i, by omega, rfl⟩
        obtain ⟨k, hk1, hk2⟩ : ∃ k : Nat, (k0 : Int) + (i : Int) = (k : Int) ∧ k = k0 + i := ⟨k0 + i, by omega, rfl⟩
        have HJ := Lib.hid hj2
        have HK := Lib.hid hk2
        have hjb : j ≤ 15 := by omega
        have hkb : k ≤ 4000 := by omega
        clear hj2 hk2
        have e5 : (dm : Int) / 2 ^ j = ((dm / 2 ^ j : Nat) : Int) := by rw [pow_cast, ← Int.natCast_ediv]
        have hle : dm / 2 ^ j ≤ dm := Nat.div_le_self _ _
        have hbit : Hid (bits .and .i64 ((dm : Int) / 2 ^ j) 1 = ((dm / 2 ^ j % 2 : Nat) : Int)) := by
          show _ = _
          rw [e5, i64_and_one _ (by omega)]
        clear e5 hle
        have hi2 : (i : Int) < 16 := by omega
        by_cases ht : dm / 2 ^ j % 2 = 1
        · have hd : (bits .and .i64 ((dm : Int) / 2 ^ j) 1 == 1) = true := by rw [hbit.out, ht]; decide
          by_cases hkl : k < 8 * bs.length
          · have hkl2 : decide ((k : Int) < 8 * (bs.length : Int)) = true := by simp; omega
            have hcl : k / 8 < cs.length := by have := HL.out; omega
            have hc := hB.cell (k / 8)
            have hf := hB.frozen (k / 8)
            have e6 : (bytes cs)[k / 8]? = some (.int .u8 (cs[k / 8] : Nat)) := by simp [hcl, byt]
            rw [e6] at hc
            have hx : cs[k / 8] < 256 := hlt _ (List.getElem_mem hcl)
            have hg : Hid (cs.getD (k / 8) 0 = cs[k / 8]) := by
              show _ = _
              rw [List.getD_eq_getElem?_getD, List.getElem?_eq_getElem hcl]; rfl
            have i1 : ((k : Int) / 8).toNat = k / 8 := by omega
            have i2 : 0 ≤ (k : Int) / 8 := by omega
            have i3 : (k : Int) / 8 < (bs.length : Int) := by omega
            have HS := Lib.hid hS
            have HB := Lib.hid hB
            clear hS hB e6
            generalize cs[k / 8] = x at *
            cases wide
            · go_wp2_with fail
              go_region
              go_wp2
              go_roundw
              case rel =>
                have hb := both_set HL.out hi16 (by have := HK.out; omega) HS.out
                rw [← HK.out, Bool.false_or] at hb
                exact ⟨i + 1, tog cs k, decide (8 ≤ i), true, by omega, by go_num, by simp; omega, rfl, by rw [tog_len, HL.out], tog_lt cs k hlt, see_put HB.out hg.out hx, hb, (ho.setCell (.inr (Nat.le_refl _)) _).drew⟩
              case measure => simp [intOf]; omega
            · go_wp2_with fail
              go_region
              go_wp2
              go_roundw
              case rel =>
                have hb := both_set HL.out hi16 (by have := HK.out; omega) HS.out
                rw [← HK.out, Bool.true_or] at hb
                exact ⟨i + 1, tog cs k, true, true, by omega, by go_num, rfl, rfl, by rw [tog_len, HL.out], tog_lt cs k hlt, see_put HB.out hg.out hx, hb, (ho.setCell (.inr (Nat.le_refl _)) _).drew⟩
              case measure => simp [intOf]; omega
          · have hkl2 : decide ((k : Int) < 8 * (bs.length : Int)) = false := by simp; omega
            have HS := Lib.hid hS
            clear hS
            go_wp2
            go_roundw
            case rel => exact ⟨i + 1, cs, wide, turned, by omega, by go_num, rfl, rfl, HL.out, hlt, hB, both_skip HS.out, ho⟩
            case measure => simp [intOf]; omega
        · have h0 : dm / 2 ^ j % 2 = 0 := by omega
          have hd : (bits .and .i64 ((dm : Int) / 2 ^ j) 1 == 1) = false := by rw [hbit.out, h0]; decide
          have HS := Lib.hid hS
          clear hS
          go_wp2
          go_roundw
          case rel => exact ⟨i + 1, cs, wide, turned, by omega, by go_num, rfl, rfl, HL.out, hlt, hB, both_skip HS.out, ho⟩
          case measure => simp [intOf]; omega
      · obtain rfl : i = 16 := by omega
        have hge : ¬ ((16 : Nat) : Int) < 16 := by omega
        have hC : Src wr (.slice (some ⟨w.heap.size, 0, none⟩) bs.length bs.length) cs := Src.of_box hB HL.out (by have := HL.out; omega) hlt
        have s16 := seen_end (by decide) (by decide) (by decide) hS.1
        have h8 := fun e => seen_end (by decide) (by decide) (by decide) (hS.2 e)
        clear hS hB
        cases turned
        · have e16 : (((sm 16 32773 cs : Nat) : Int) == ((sm 16 32773 bs : Nat) : Int)) = true := by
            rw [beq_iff_eq]
            have : ¬ sm 16 32773 cs ≠ sm 16 32773 bs := fun e => by have := s16.2 e; cases this
            omega
          clear s16 h8
          go_wp2_with fail
          refine (one16 ho (hL.nix ho) hC).mono ?_
          rintro e w2 ⟨rfl, o2⟩
          go_wp2_with fail
          refine (one16 o2 (hL.nix o2) (h.nix o2)).mono ?_
          rintro e w3 ⟨rfl, o3⟩
          go_wp2_with fail
          refine (aw o3 (hL.nix o3)).mono ?_
          rintro e w4 ⟨rfl, o4⟩
          go_wp2
          go_ret
          exact ⟨rfl, o4⟩
        · have e16 : (((sm 16 32773 cs : Nat) : Int) != ((sm 16 32773 bs : Nat) : Int)) = true := by
            rw [bne_iff_ne]
            have := s16.1 rfl
            omega
          clear s16
          cases wide
          · have e8 : (((sm 8 7 cs : Nat) : Int) != ((sm 8 7 bs : Nat) : Int)) = true := by
              rw [bne_iff_ne]
              have := (h8 rfl).1 rfl
              omega
            clear h8
            have hC' : ∀ u, Only Nix wr u → Src u (.slice (some ⟨w.heap.size, 0, none⟩) bs.length bs.length) cs := fun u hu => hC.nix hu
            go_wp2_with fail
            refine (one16 (Only.refl _ _) (hL.nix ho) hC).mono ?_
            rintro e w2 ⟨rfl, o2⟩
            go_wp2_with fail
            refine (one16 o2 (hL.nix (ho.trans o2)) (h.nix (ho.trans o2))).mono ?_
            rintro e w3 ⟨rfl, o3⟩
            go_wp2_with fail
            refine (one8 o3 (hL.nix (ho.trans o3)) (hC' _ o3)).mono ?_
            rintro e w4 ⟨rfl, o4⟩
            go_wp2_with fail
            refine (one8 o4 (hL.nix (ho.trans o4)) (h.nix (ho.trans o4))).mono ?_
            rintro e w5 ⟨rfl, o5⟩
            go_wp2_with fail
            refine (aw o5 (hL.nix (ho.trans o5))).mono ?_
            rintro e w6 ⟨rfl, o6⟩
            go_wp2
            go_ret
            exact ⟨rfl, ho.trans o6⟩
          · clear h8
            go_wp2_with fail
            refine (one16 ho (hL.nix ho) hC).mono ?_
            rintro e w2 ⟨rfl, o2⟩
            go_wp2_with fail
            refine (one16 o2 (hL.nix o2) (h.nix o2)).mono ?_
            rintro e w3 ⟨rfl, o3⟩
            go_wp2_with fail
            refine (aw o3 (hL.nix o3)).mono ?_
            rintro e w4 ⟨rfl, o4⟩
            go_wp2
            go_ret
            exact ⟨rfl, o4⟩
set_option maxHeartbeats 1000000 in
theorem sumsSee_walk (A : Option Addr) (c : Nat) (bs : List Nat) (x y : Int) (w : World) (hL : Laid w) (h : Src w (.slice A bs.length c) bs) :
    Calls Tryd.prog 6 #[.slice A bs.length c, iv x, iv y] w fun e w' => e = .returned (.bool true) ∧ Only Nix w w' := by
  have hsm := h.small
  by_cases t0 : (bs.length : Int) < 1
  · have b0 : decide ((bs.length : Int) < 1) = true := by simpa using t0
    go_enter Tryd.func6, Tryd.ntmps6
    go_wp2_with fail
    refine (awake_any hL).mono ?_
    rintro e w1 ⟨rfl, ho1⟩
    go_wp2
    go_ret
    exact ⟨rfl, ho1⟩
  have b0 : decide ((bs.length : Int) < 1) = false := by simpa using t0
  by_cases t1 : 400 < (bs.length : Int)
  · have b1 : decide (400 < (bs.length : Int)) = true := by simpa using t1
    go_enter Tryd.func6, Tryd.ntmps6
    go_wp2_with fail
    refine (awake_any hL).mono ?_
    rintro e w1 ⟨rfl, ho1⟩
    go_wp2
    go_ret
    exact ⟨rfl, ho1⟩
  have b1 : decide (400 < (bs.length : Int)) = false := by simpa using t1
  by_cases t2 : x < 0
  · have b2 : decide (x < 0) = true := by simpa using t2
    go_enter Tryd.func6, Tryd.ntmps6
    go_wp2_with fail
    refine (awake_any hL).mono ?_
    rintro e w1 ⟨rfl, ho1⟩
    go_wp2
    go_ret
    exact ⟨rfl, ho1⟩
  have b2 : decide (x < 0) = false := by simpa using t2
  by_cases t3 : 8 * (bs.length : Int) ≤ x
  · have b3 : decide (8 * (bs.length : Int) ≤ x) = true := by simpa using t3
    go_enter Tryd.func6, Tryd.ntmps6
    go_wp2_with fail
    refine (awake_any hL).mono ?_
    rintro e w1 ⟨rfl, ho1⟩
    go_wp2
    go_ret
    exact ⟨rfl, ho1⟩
  have b3 : decide (8 * (bs.length : Int) ≤ x) = false := by simpa using t3
  by_cases t4 : y < 1
  · have b4 : decide (y < 1) = true := by simpa using t4
    go_enter Tryd.func6, Tryd.ntmps6
    go_wp2_with fail
    refine (awake_any hL).mono ?_
    rintro e w1 ⟨rfl, ho1⟩
    go_wp2
    go_ret
    exact ⟨rfl, ho1⟩
  have b4 : decide (y < 1) = false := by simpa using t4
  by_cases t5 : 65535 < y
  · have b5 : decide (65535 < y) = true := by simpa using t5
    go_enter Tryd.func6, Tryd.ntmps6
    go_wp2_with fail
    refine (awake_any hL).mono ?_
    rintro e w1 ⟨rfl, ho1⟩
    go_wp2
    go_ret
    exact ⟨rfl, ho1⟩
  have b5 : decide (65535 < y) = false := by simpa using t5
  obtain ⟨k0, rfl⟩ := Int.eq_ofNat_of_zero_le (show 0 ≤ x by omega)
  obtain ⟨dm, rfl⟩ := Int.eq_ofNat_of_zero_le (show 0 ≤ y by omega)
  exact see_go A c bs k0 dm w hL h (by omega) (by omega) (by omega) (by omega) (by omega)
end Go.Proofs.YtmnnjbamphoghaaDoor
