/-
  The document's Big and High.
-/
import Derived.Test.YtphpciglpnbblaaDoorTPB
import Derived.Test.YtphpciglpnbblaaDoorTI
namespace Go.Proofs.YtphpciglpnbblaaDoor
open Go.RowKit Go.Shelf

def BgI (w : World) (m n : Nat) (s5 s6 : Value) (wr : World) : Prop := ∃ j : Nat, j ≤ m ∧ s6 = iv ((m : Int) - 1 - (j : Int)) ∧ Owns wr w.heap.size 5 byt s5 ((be m n).take j) ∧ Only Nix w wr
set_option maxHeartbeats 4000000 in
theorem big_any {w : World} (m n : Nat) (hm : m ≤ 8) (hn : n < 9223372036854775808) :
    Calls Tryd.prog 42 #[iv n, iv m] w fun e w' => ∃ v, e = .returned v ∧ Owns w' w.heap.size 5 byt v (be m n) ∧ Only Nix w w' := by
  go_enter Tryd.func42, Tryd.ntmps42
  go_wp2
  go_loopw [5, 6] (fun s5 s6 wr => BgI w m n s5 s6 wr) (fun _ s6 _ => (intOf s6 + 1).toNat)
  case atStart => exact ⟨0, Nat.zero_le _, by go_num, Owns.nil _ _ _ _, Only.refl _ _⟩
  case round =>
    obtain ⟨j, hj, rfl, ho, hw⟩ := hrel
    have HO := Lib.hid ho
    have HW := Lib.hid hw
    have hsz := hw.size
    clear ho hw
    by_cases hlt : j < m
    · obtain ⟨K, hK⟩ : ∃ K : Nat, m - 1 - j = K := ⟨_, rfl⟩
      have hKi : (m : Int) - 1 - (j : Int) = (K : Int) := by omega
      have HT := Lib.hid (be_take m n j hlt)
      rw [hK] at HT
      have hK7 : K ≤ 7 := by omega
      rw [hKi]
      have HK := Lib.hid hKi
      clear hK hKi
      have HC : Hid ((wr.alloc (.cells #[.int .u8 ((n : Int) / 2 ^ (8 * K) % 256)] 5)).cell? ⟨wr.heap.size, 0, none⟩ = some (byt (n / 2 ^ (8 * K) % 256))) := Lib.hid (by
        have e : (n : Int) / 2 ^ (8 * K) % 256 = ((n / 2 ^ (8 * K) % 256 : Nat) : Int) := by rw [pow_cast, Int.natCast_emod, Int.natCast_ediv]; rfl
        rw [e]
        exact (Box.new wr 5 #[.int .u8 ((n / 2 ^ (8 * K) % 256 : Nat) : Int)]).cell 0)
      have hl1 : ((be m n).take j).length ≤ 100000 := by rw [List.length_take, be_len]; omega
      have HL1 := Lib.hid hl1
      have HSz := Lib.hid hsz
      have hpos : (0 : Int) ≤ (n : Int) / 2 ^ (8 * K) := Int.ediv_nonneg (by omega) (by rw [pow_cast]; exact Int.natCast_nonneg _)
      have htm : ((n : Int) / 2 ^ (8 * K)).tmod 256 = (n : Int) / 2 ^ (8 * K) % 256 := Int.tmod_eq_emod_of_nonneg hpos
      clear hl1 hsz
      go_wp2_with (at_builtin; refine app_byte rfl (.tmp 13) (.tmp 20) rfl w.heap.size u5 ((be m n).take j) rfl ?own1 wr.heap.size (n / 2 ^ (8 * K) % 256) rfl HC.out HL1.out ?base1 ?rest1)
      case own1 => exact World.ownsRow.alloc HO.out _
      case base1 => have := HSz.out; simp; omega
      case rest1 =>
        intro v1 w1 r1 g1 m1
        have HO1 := Lib.hid r1
        have HW1 := Lib.hid ((HW.out.alloc _).grown g1 (fun k hk => .inr (HO.out.lt hk).1))
        clear r1 g1 m1
        go_wp2
        go_roundw
        case rel => exact ⟨j + 1, hlt, by rw [← HK.out]; go_num, by rw [HT.out]; exact HO1.out, HW1.out⟩
        case measure => simp [intOf]
    · obtain rfl : j = m := by omega
      have hneg : (j : Int) - 1 - (j : Int) = -1 := by omega
      rw [hneg]
      have HE : Hid ((be j n).take j = be j n) := Lib.hid (List.take_of_length_le (by rw [be_len]; exact Nat.le_refl _))
      clear hneg
      go_wp2
      go_ret
      exact ⟨_, rfl, by rw [← HE.out]; exact HO.out, HW.out⟩
def highE (r : List Nat) : Int := if r.length < 4 then -1 else (vl (r.take 4) : Int)
def HgRel (w : World) (r : List Nat) (s7 s8 : Value) (wr : World) : Prop := ∃ j : Nat, j ≤ 4 ∧ s8 = iv j ∧ s7 = iv (vl (r.take j) : Nat) ∧ w = wr
set_option maxHeartbeats 4000000 in
theorem high13 {w : World} {A : Option Addr} {n c : Nat} {bs : List Nat} (hs : CSrc w (.slice A n c) bs) (k : Nat) (hk : k ≤ 4611686018427387904) :
    Calls Tryd.prog 43 #[.slice A n c, iv k, iv 4] w fun e w' => e = .returned (iv (highE (bs.drop k))) ∧ w = w' := by
  have hn := hs.src.len
  have hsm := hs.src.small
  have hdl : (bs.drop k).length = bs.length - k := List.length_drop
  by_cases hlt : (bs.drop k).length < 4
  · have hE : Hid (highE (bs.drop k) = -1) := Lib.hid (by unfold highE; rw [if_pos hlt])
    have hd : (n : Int) < (k : Int) + 4 := by omega
    clear hs hlt hn hsm hdl
    go_enter Tryd.func43, Tryd.ntmps43
    go_wp2
    go_ret
    exact ⟨by rw [hE.out]; rfl, rfl⟩
  · have hlen : k + 4 ≤ n := by omega
    have hE : Hid (highE (bs.drop k) = (vl ((bs.drop k).take 4) : Nat)) := Lib.hid (by unfold highE; rw [if_neg hlt])
    have hb : Hid (∀ j, j ≤ 4 → vl ((bs.drop k).take j) < 4294967296) := Lib.hid (fun j hj => by
      have := vl_lt ((bs.drop k).take j) (fun x hx => hs.src.lt x (List.mem_of_mem_drop (List.mem_of_mem_take hx)))
      rw [List.length_take, show min j (bs.drop k).length = j by omega] at this
      exact Nat.lt_of_lt_of_le this (by rw [show (4294967296 : Nat) = 2 ^ 32 by decide]; exact Nat.pow_le_pow_right (by decide) (by omega)))
    have HS := Lib.hid hs
    have Hn := Lib.hid hn
    have Hdl : Hid (4 ≤ (bs.drop k).length) := Lib.hid (by omega)
    have hd : ¬ (n : Int) < (k : Int) + 4 := by omega
    clear hs hlt hn hsm hdl
    go_enter Tryd.func43, Tryd.ntmps43
    go_wp2
    go_loopw [7, 8] (fun s7 s8 wr => HgRel w (bs.drop k) s7 s8 wr) (fun _ s8 _ => 4 - (intOf s8).toNat)
    case atStart => exact ⟨0, by omega, rfl, rfl, rfl⟩
    case round =>
      obtain ⟨j, hj, rfl, rfl, rfl⟩ := hrel
      by_cases hj4 : j < 4
      · have hj4i : (j : Int) < 4 := by omega
        obtain ⟨ad, rfl, hx⟩ := HS.out.src.at_ (k := k + j) (by have := Hn.out; omega)
        have hjl : j < (bs.drop k).length := by have := Hdl.out; omega
        have hx2 : w.cell? (ad.add (k + j)) = some (byt (bs.drop k)[j]) := by rw [hx, List.getElem_drop]
        have hl : (bs.drop k)[j] < 256 := HS.out.src.lt _ (List.mem_of_mem_drop (List.getElem_mem hjl))
        have HV : Hid (vl ((bs.drop k).take (j + 1)) = vl ((bs.drop k).take j) * 256 + (bs.drop k)[j]) := Lib.hid (by rw [List.take_succ_eq_append_getElem hjl, vl_snoc])
        have hvb := hb.out j hj
        have hvb2 := hb.out (j + 1) (by omega)
        rw [HV.out] at hvb2
        have hkj : (k : Int) + (j : Int) < (n : Int) := by omega
        generalize (bs.drop k)[j] = x at *
        generalize vl ((bs.drop k).take j) = V at *
        unfold byt at hx2
        clear hx hjl
        go_wp2
        go_roundw
        case rel => exact ⟨j + 1, hj4, by go_num, by rw [HV.out]; try go_num, rfl⟩
        case measure => simp [intOf]; omega
      · obtain rfl : j = 4 := by omega
        go_wp2
        go_ret
        exact ⟨by rw [hE.out]; rfl, rfl⟩
end Go.Proofs.YtphpciglpnbblaaDoor
