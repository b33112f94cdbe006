/-
  The document's answer: Bytes of bits.
-/
import Derived.Test.YtliemhadgbjjiaaQPutW
namespace Go.Proofs.Ytliemhadgbjjiaa
open Go.RowKit

theorem numAt_succ (bs : List Nat) (a k b : Nat) (h : (bitsOf bs)[a + k]? = some b) : numAt bs a (k + 1) = numAt bs a k * 2 + b := by
  have hl : a + k < (bitsOf bs).length := (List.getElem?_eq_some_iff.1 h).1
  have h1 := val_more (bitsOf bs) a k 1 (by omega)
  have h2 : ((bitsOf bs).drop (a + k)).take 1 = [b] := by
    rw [List.drop_eq_getElem_cons hl, (List.getElem?_eq_some_iff.1 h).2]; rfl
  unfold numAt
  rw [h1, h2]
  simp [val]
theorem numAt_byte (bs : List Nat) (j : Nat) (h : j < bs.length) (hlt : ∀ x ∈ bs, x < 256) : numAt bs (8 * j) 8 = bs[j] := by
  have h1 := chunk bs (8 * j) 8 (by omega) (by omega)
  unfold numAt
  have e : 8 * j / 8 = j := by omega
  have hx := hlt _ (List.getElem_mem h)
  rw [h1]
  simp only [e]
  rw [show 8 - 8 * j % 8 - 8 = 0 from by omega, Nat.pow_zero, Nat.div_one, Nat.mod_eq_of_lt hx]

def OutP (w : World) (bs : List Nat) (s3 s4 : Value) (wr : World) : Prop :=
  ∃ j : Nat, j ≤ bs.length ∧ s4 = iv ((8 * j : Nat) : Int) ∧ wr.ownsRow w.heap.size 5 1 s3 j ((bs.take j).map byt) ∧ Only Nix w wr
def InP (bs : List Nat) (j : Nat) (s5 s6 : Value) : Prop := ∃ k : Nat, k ≤ 8 ∧ s6 = iv k ∧ s5 = iv (numAt bs (8 * j) k : Int)

set_option maxRecDepth 100000 in
set_option maxHeartbeats 1000000 in
theorem bytesRef_any {w : World} {base : Nat} {v : Value} {l bs : List Nat} (h : Bitrow w base v l) (hp : Packs bs l) (hl : l.length ≤ 100000000) :
    Calls Try.prog 20 #[v] w fun e w' => ∃ v', e = .returned v' ∧ w'.ownsRow w.heap.size 5 1 v' bs.length (bs.map byt) ∧ Only Nix w w' := by
  obtain ⟨i0, hi, hz0, hz1, hz2⟩ := info_parts Try.info_byte
  obtain ⟨A0, c0, hv0⟩ := owns_slice h
  subst hv0
  have hlo := hp.lo
  have hhi := hp.hi
  have hlt256 := hp.lt
  have Hp := Lib.hid hp
  have Hh := Lib.hid h
  have Hlt := Lib.hid hlt256
  clear h hp hlt256
  go_enter Try.func20, Try.ntmps20
  go_wp2
  go_loopw [3, 4] (fun s3 s4 wr => OutP w bs s3 s4 wr) (fun _ s4 _ => 8 * bs.length - (intOf s4).toNat)
  case atStart => exact ⟨0, Nat.zero_le _, rfl, World.ownsRow_nil _ _ _ _, Only.refl _ _⟩
  case round =>
    obtain ⟨j, hj, rfl, hown, ho⟩ := hrel
    obtain ⟨A4, c4, hv4⟩ := owns_slice hown
    subst hv4
    have Hown := Lib.hid hown
    have hsz := ho.size
    clear hown
    by_cases hlt : j < bs.length
    · have hc1 : ((8 * j : Nat) : Int) < (l.length : Int) := by omega
      have hc2 : 8 * (j : Int) < (l.length : Int) := by omega
      go_wp2
      go_loop [5, 6] (fun s5 s6 => InP bs j s5 s6) (fun _ s6 => 8 - (intOf s6).toNat)
      case atStart => exact ⟨0, by omega, rfl, by simp [numAt, val]⟩
      case round =>
        obtain ⟨k, hk, rfl, rfl⟩ := hrel
        by_cases hk8 : k < 8
        · have hbl := bitsOf_len bs
          have hN := numAt_lt bs (8 * j) k
          have hN2 := pow_le_of (show k ≤ 8 by omega)
          have hN3 : numAt bs (8 * j) k ≤ 256 := by omega
          have hk8i : (k : Int) < 8 := by omega
          by_cases hin : 8 * j + k < l.length
          · have hin2 : ((8 * j : Nat) : Int) + (k : Int) < (l.length : Int) := by omega
            have hin3 : 8 * (j : Int) + (k : Int) < (l.length : Int) := by omega
            obtain ⟨g, hg, hcell⟩ : ∃ g, A0 = some ⟨g, 0, none⟩ ∧ wr.cell? ⟨g, 8 * j + k, none⟩ = some (iv (l[8 * j + k] : Int)) := by
              have hw := owns_only Hh.out ho (fun _ _ e => e)
              rcases hw.2 with ⟨_, hn⟩ | ⟨g, cap, cur, hv9, _⟩
              · omega
              · injection hv9 with h8 _ h7
                subst h8 h7
                refine ⟨g, rfl, ?_⟩
                rw [hw.cellAt _ (by omega)]
                simp [bv, List.getElem?_eq_getElem hin]
            subst hg
            have hb1 : (bitsOf bs)[8 * j + k]? = some l[8 * j + k] := by
              rw [Hp.out.bits, List.getElem?_append_left hin, List.getElem?_eq_getElem hin]
            have hle1 := bitsOf_le bs l[8 * j + k] (List.mem_of_getElem? hb1)
            have Hs := Lib.hid (numAt_succ bs (8 * j) k _ hb1)
            have hil : (8 * j + k : Nat) < l.length := hin
            clear hb1 hbl hN hN2
            generalize l[8 * j + k] = y at *
            generalize numAt bs (8 * j) k = N at *
            go_wp2
            go_round
            case rel => exact ⟨k + 1, by omega, by go_num, by rw [Hs.out]; go_num⟩
            case measure => simp [intOf]; omega
          · have hin2 : ¬ ((8 * j : Nat) : Int) + (k : Int) < (l.length : Int) := by omega
            have hin3 : decide (8 * (j : Int) + (k : Int) < (l.length : Int)) = false := by simp; omega
            have hb1 : (bitsOf bs)[8 * j + k]? = some 0 := by
              rw [Hp.out.bits, List.getElem?_append_right (by omega), List.getElem?_replicate, if_pos (by omega)]
            have Hs := Lib.hid (numAt_succ bs (8 * j) k _ hb1)
            clear hb1 hbl hN hN2
            generalize numAt bs (8 * j) k = N at *
            go_wp2
            go_round
            case rel => exact ⟨k + 1, by omega, by go_num, by rw [Hs.out]; go_num⟩
            case measure => simp [intOf]; omega
        · obtain rfl : k = 8 := by omega
          have hN := numAt_byte bs j hlt Hlt.out
          rw [hN]
          have hx := Hlt.out _ (List.getElem_mem hlt)
          have hts : (bs.take (j + 1)).map byt = (bs.take j).map byt ++ [byt bs[j]] := by rw [List.take_succ_eq_append_getElem hlt, List.map_append]; rfl
          have Hts := Lib.hid hts
          clear hN hts
          generalize bs[j] = y at *
          generalize (bs.take j).map byt = T at *
          have hym : (y : Int) % 256 = (y : Int) := by omega
          go_wp2_with (at_builtin; refine wpList_append_own _ rfl (.tmp 33) (.tmp 36) 41 rfl w.heap.size 5 i0 (.int .u8 0) 1 1 Try.underlying41 hi hz0 hz1 hz2 rfl (by decide) (.slice A4 j c4) j T rfl ?hown ⟨wr.heap.size, 0, none⟩ 1 1 [byt y] rfl rfl ?hnews ?h1 ?h63 ?hby ?hbase ?rest)
          case hown => exact Hown.out.alloc _
          case hnews => intro j u hu; simpa [byt] using hu
          case h1 => rfl
          case h63 => unfold maxLen; omega
          case hby => omega
          case hbase => omega
          case rest =>
            intro v3 w3 hown3 hgr _
            have ho3 : Only Nix w w3 := (ho.alloc _).grown hgr (fun q e => .inr (Hown.out.lt q e).1)
            obtain ⟨A5, c5, hv5⟩ := owns_slice hown3
            subst hv5
            have Hown3 := Lib.hid hown3
            clear hown3 hgr
            go_wp2
            go_roundw
            case rel => exact ⟨j + 1, by omega, by go_num, by rw [Hts.out]; exact Hown3.out, ho3⟩
            case measure => simp [intOf]; omega
    · obtain rfl : j = bs.length := by omega
      have hc1 : ¬ (((8 * bs.length : Nat) : Int) < (l.length : Int)) := by omega
      have hc2 : decide (8 * (bs.length : Int) < (l.length : Int)) = false := by simp; omega
      go_wp2
      go_ret
      exact ⟨_, rfl, by have h9 := Hown.out; rw [List.take_length] at h9; exact h9, ho⟩
end Go.Proofs.Ytliemhadgbjjiaa
