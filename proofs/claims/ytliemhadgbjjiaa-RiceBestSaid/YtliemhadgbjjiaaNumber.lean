/-
  The Writer's number: the last n bits of v, written.
-/
import Derived.Test.YtliemhadgbjjiaaWrite
import Derived.Test.YtliemhadgbjjiaaPut
import Derived.BigRegion
namespace Go.Proofs.Ytliemhadgbjjiaa
open Go.RowKit

/-- a round's head: k bits are written, q are left -/
def NumRel (w : World) (b : Nat) (v0 v : Value) (N : Nat) (l : List Nat) (n U : Nat) (s1 : Value) (wr : World) : Prop :=
  ∃ (k q : Nat) (bs : List Nat), k + q = n ∧ s1 = .int .i64 (q : Int) ∧ bs.length = N ∧ Box wr w.heap.size 66 #[.int .i64 ((l.length + k : Nat) : Int)] ∧
    Box wr b 68 #[.int .i64 ((l.length + n : Nat) : Int), v] ∧ wr.ownsRow 0 5 1 v N (bs.map byt) ∧ (∀ x ∈ bs, x < 256) ∧
    bitsOf bs = (l ++ bitsN k (U / 2 ^ q)) ++ List.replicate (8 * N - l.length - k) 0 ∧ Only (WF b v0) w wr

set_option maxHeartbeats 2000000 in
theorem number_any {w : World} {b : Nat} {v0 : Value} {bs0 l : List Nat} (h : Wr w b v0 bs0 l) (n : Nat) (x : Int) (hn : n ≤ 48) (hl : l.length + n ≤ 562949953421312) :
    Calls Try.prog 47 #[.pointer (some ⟨b, 0, none⟩), .int .i64 (n : Int), .int .i64 x] w fun e w' => ∃ v' bs', e = .returned (.tuple #[]) ∧ Wr w' b v' bs' (l ++ bitsN n (x % 2 ^ n).toNat) ∧ Only (WF b v0) w w' ∧ Moves w.heap.size v0 v' := by
  have hc0 := h.cell0
  have hbl := h.box.lt
  go_enter Try.func47, Try.ntmps47
  go_wp2_with fail
  refine (noughts_any (h.alloc _) n hl).mono ?_
  rintro e w1 ⟨v, bs, rfl, hW, ho, hmv⟩
  have hsz := ho.size
  have hpb : Box w1 w.heap.size 66 #[.int .i64 (l.length : Int)] := by
    refine (Box.new w _ _).only ho ?_
    rintro (e | e)
    · omega
    · have := owns_lt h.own e; omega
  have how : Only (WF b v0) w w1 := ((Only.refl _ w).alloc _).trans ho
  have hmv' : Moves w.heap.size v0 v := fun g hg => by
    rcases hmv g hg with h1 | h1
    · exact .inl h1
    · simp at h1; exact .inr (by omega)
  have hlen := hW.len
  have hP0 := hW.packs
  have hN1 := hP0.lo
  have hN2 := hP0.hi
  rw [List.length_append, List.length_replicate] at hN1 hN2
  generalize hNe : bs.length = N at *
  generalize hUe : (x % 2 ^ n).toNat = U at *
  have HNe := Lib.hid hNe
  have HUe := Lib.hid hUe
  clear hNe hUe
  clear hc0
  go_wp2_with fail
  go_loopw [1] (fun s1 wr => NumRel w b v0 v N l n U s1 wr) (fun s1 _ => (intOf s1).toNat)
  case atStart =>
    have hw1 := hW.own
    have hw2 := hW.box
    have hbt := hP0.bits
    rw [HNe.out] at hw1 hbt
    rw [List.length_append, List.length_replicate] at hw2 hbt
    refine ⟨0, n, bs, by omega, rfl, HNe.out, hpb, hw2, hw1, hP0.lt, ?_, how⟩
    rw [hbt, List.append_assoc, List.replicate_append_replicate]
    simp only [bitsN, List.append_nil]
    congr 2
    omega
  case round =>
    clear hW how hpb hP0 HNe hsz ho bs
    obtain ⟨k, q, bs, hkq, rfl, hNe, hpb, hbx, hown, hlt, hbits, how⟩ := hrel
    have hsz := how.size
    have hq48 : q ≤ 48 := by omega
    by_cases hq : 0 < q
    · obtain ⟨g, c, hv⟩ : ∃ g c, v = .slice (some ⟨g, 0, none⟩) N c := by
        rcases hown.2 with ⟨_, hn⟩ | ⟨g, cap, cur, hv, _⟩
        · omega
        · exact ⟨g, cap, hv⟩
      subst hv
      have hix : (l.length + k) / 8 < bs.length := by omega
      have hgne : g ≠ b := fun e => owns_box hown hbx (by decide) (by simp [Value.ownBlock, e])
      have hgnp : g ≠ w.heap.size := fun e => owns_box hown hpb (by decide) (by simp [Value.ownBlock, e])
      have hgl : g < wr.heap.size := owns_lt hown (by simp [Value.ownBlock])
      have hpc := hpb.cell 0
      have hpf := hpb.frozen 0
      have hd1 := hbx.cell 1
      simp only [List.getElem?_toArray, List.getElem?_cons_zero, List.getElem?_cons_succ] at hpc hd1
      have hy := hown.cellAt ((l.length + k) / 8) (by omega)
      rw [List.getElem?_map, List.getElem?_eq_getElem hix] at hy
      have hyf := hown.frozenAt ((l.length + k) / 8)
      simp only [Option.map_some, byt] at hy
      have hylt := hlt _ (List.getElem_mem hix)
      have Hbits := Lib.hid hbits
      have Hlt := Lib.hid hlt
      have Hkq := Lib.hid hkq
      have HNe := Lib.hid hNe
      have Hown := Lib.hid hown
      generalize hPe : l.length + k = P at *
      have HPe := Lib.hid hPe
      generalize hye : bs[P / 8] = y at *
      have Hye := Lib.hid hye
      have hP2 : P ≤ 1125899906842624 := by omega
      have hix2 : (P : Int) / 8 < (N : Int) := by omega
      clear hbits hlt hkq hNe hown hPe hye
      go_wp2_with fail
      refine (share_nat _ _ _ _ hpc).mono ?_
      rintro e w2 ⟨m, bb, ⟨hm1, hm2, hm3⟩, rfl, rfl⟩
      obtain ⟨q', hq'⟩ : ∃ q' : Nat, q = m + q' := ⟨q - m, by omega⟩
      have hwq : wrap64 ((q : Int) - (m : Int)) = (q' : Int) := by rw [w64 _ (by omega) (by omega)]; omega
      have hm8 : m ≤ 8 := by omega
      have hbb8 : bb ≤ 8 := by omega
      have Hq' := Lib.hid hq'
      have Hm2 := Lib.hid hm2
      have Hm3 := Lib.hid hm3
      clear hq' hm2 hm3
      go_wp2_with fail
      go_region
      go_wp2_with fail
      have hq' := Hq'.out
      have hm2 := Hm2.out
      have hkq := Hkq.out
      have hPe := HPe.out
      have hNe := HNe.out
      have hLl : (l ++ bitsN k (U / 2 ^ q)).length = P := by rw [List.length_append, bitsN_len]; exact hPe
      have hXl : U / 2 ^ q' % 2 ^ m < 2 ^ m := Nat.mod_lt _ (Nat.two_pow_pos m)
      have hlay := lay_bits bs (l ++ bitsN k (U / 2 ^ q)) _ m bb (U / 2 ^ q' % 2 ^ m) Hbits.out (by rw [hLl]; omega) Hlt.out (by rw [hLl]; exact hm2) hXl
      simp only [hLl] at hlay
      rw [Hye.out] at hlay
      obtain ⟨hl1, hl2, hl3⟩ := hlay
      have hst := write_step x n q' m bb y (by omega) hm8 hylt (by rw [HUe.out]; exact hl2)
      rw [HUe.out] at hst
      rw [show q - m = q' from by omega, hst]
      generalize hYe : y ||| U / 2 ^ q' % 2 ^ m * 2 ^ bb = Y at *
      have hcs : (wr.setCell ⟨g, P / 8, none⟩ (.int .u8 (Y : Int))).drew.cell? ⟨w.heap.size, 0, none⟩ = some (.int .i64 (P : Int)) := by
        have := ((hpb.off (p := ⟨g, P / 8, none⟩) (fun e => hgnp e.symm) (.int .u8 (Y : Int))).drew).cell 0
        simpa using this
      have hcf : (wr.setCell ⟨g, P / 8, none⟩ (.int .u8 (Y : Int))).drew.frozen? ⟨w.heap.size, 0, none⟩ = false :=
        ((hpb.off (p := ⟨g, P / 8, none⟩) (fun e => hgnp e.symm) (.int .u8 (Y : Int))).drew).frozen 0
      refine (forth_any _ P _ _ hcs hcf (by omega) (by omega)).mono ?_
      rintro e w3 ⟨rfl, rfl⟩
      have Hst := Lib.hid (And.intro hl1 hl3)
      have Hqm := Lib.hid (And.intro hq' (And.intro hm2 (And.intro hkq (And.intro hPe hNe))))
      clear hst hl1 hl2 hl3 hXl hLl hq' hm2 hkq hPe hNe hYe hcs hcf
      go_wp2
      obtain ⟨hq', hm2, hkq, hPe, hNe⟩ := Hqm.out
      obtain ⟨hl1, hl3⟩ := Hst.out
      have hsw : (q : Int) - (m : Int) = (q' : Int) := by omega
      rw [hsw]
      have hstored := (Hown.out).stored (P / 8) (.int .u8 (Y : Int))
      refine ⟨⟨k + m, q', bs.set (P / 8) Y, by omega, rfl, by rw [List.length_set]; exact hNe, ?_, ?_, ?_, ?_, ?_, ?_⟩, ?_⟩
      · have h1 := ((hpb.off (p := ⟨g, P / 8, none⟩) (fun e => hgnp e.symm) (.int .u8 (Y : Int))).put 0 (.int .i64 ((l.length + (k + m) : Nat) : Int))).drew
        rw [show ((l.length + (k + m) : Nat) : Int) = (P : Int) + (m : Int) from by omega] at h1 ⊢
        simpa using h1
      · exact (((hbx.off (p := ⟨g, P / 8, none⟩) (fun e => hgne e.symm) (.int .u8 (Y : Int))).drew).off (p := ⟨w.heap.size, 0, none⟩) (by show b ≠ w.heap.size; omega) _)
      · have h1 := hstored.1
        rw [show (bs.map byt).set (P / 8) (.int .u8 (Y : Int)) = (bs.set (P / 8) Y).map byt from by rw [List.map_set]; rfl] at h1
        exact owns_only (F := Just w.heap.size) h1 (((Only.refl (Just w.heap.size) _).drew).setCell (p := ⟨w.heap.size, 0, none⟩) (.inl rfl) _) (fun i hi e => hgnp (by simp [Value.ownBlock] at hi; rw [hi]; exact e))
      · intro z hz
        rcases List.mem_or_eq_of_mem_set hz with h1 | h1
        · exact Hlt.out z h1
        · rw [h1]; exact hl1
      · rw [hl3, show k + m = k + m from rfl, bitsN_add, Nat.div_div_eq_div_mul, ← Nat.pow_add, show q' + m = q from by omega, bitsN_mod m _ m (Nat.le_refl _), List.append_assoc l]
        congr 2
        omega
      · refine ((how.setCell (p := ⟨g, P / 8, none⟩) ?_ _).drew).setCell (p := ⟨w.heap.size, 0, none⟩) (.inr (Nat.le_refl _)) _
        rcases hmv' g (by simp [Value.ownBlock]) with h1 | h1
        · exact .inl (.inr h1)
        · exact .inr h1
      · have hm3 := Hm3.out; simp [intOf]; omega
    · go_wp2
      go_end0
      obtain rfl : q = 0 := by omega
      obtain rfl : k = n := by omega
      refine ⟨v, bs, rfl, ⟨?_, ?_, ⟨hlt, ?_, ?_, ?_⟩, ?_⟩, how, hmv'⟩
      · rw [List.length_append, bitsN_len]; exact hbx
      · rw [hNe]; exact hown
      · rw [hbits, Nat.pow_zero, Nat.div_one, HUe.out, List.length_append, bitsN_len, hNe, Nat.sub_sub]
      · rw [List.length_append, bitsN_len, hNe]; exact hN1
      · rw [List.length_append, bitsN_len, hNe]; exact hN2
      · rw [List.length_append, bitsN_len]; exact hl
end Go.Proofs.Ytliemhadgbjjiaa
