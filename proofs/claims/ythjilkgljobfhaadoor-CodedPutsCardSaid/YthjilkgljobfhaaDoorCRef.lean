/-
  The document's answer: Size, Bytes of bits, Put.
-/
import Derived.Test.YthjilkgljobfhaaDoorCBits
import Derived.Test.YthjilkgljobfhaaDoorCApp
namespace Go.Proofs.YthjilkgljobfhaaDoor
open Go.RowKit

def SizeP (n : Nat) (s3 s4 : Value) : Prop := ∃ s : Nat, 2 ≤ s ∧ s ≤ szOf n ∧ s3 = iv s ∧ s4 = iv (bel.getD (s - 1) 0 : Nat)
theorem bel_next (s : Nat) (h : 2 ≤ s) (h7 : s < 7) : bel.getD (s - 1) 0 * 32 = bel.getD (s + 1 - 1) 0 ∧ bel.getD (s - 1) 0 ≤ 68719476736 := by
  obtain rfl | rfl | rfl | rfl | rfl : s = 2 ∨ s = 3 ∨ s = 4 ∨ s = 5 ∨ s = 6 := by omega
  all_goals simp [bel]
set_option maxHeartbeats 400000 in
theorem sizeRef_any {w : World} (n : Nat) (hn : n < 68719476736) :
    Calls Tryd.prog 14 #[iv n] w fun e w' => e = .returned (iv (szOf n : Nat)) ∧ w = w' := by
  by_cases h1 : n < 128
  · have d1 : (n : Int) < 128 := by omega
    have e : szOf n = 1 := by unfold szOf; rw [if_pos h1]
    rw [e]
    go_enter Tryd.func14, Tryd.ntmps14
    go_wp2
    go_ret
    exact ⟨rfl, rfl⟩
  · have d1 : ¬ (n : Int) < 128 := by omega
    have hS2 : 2 ≤ szOf n := by rcases szOf_cases n with h | h | h | h | h | h | h <;> omega
    go_enter Tryd.func14, Tryd.ntmps14
    go_wp2
    go_loop [3, 4] (fun s3 s4 => SizeP n s3 s4) (fun s3 _ => szOf n - (intOf s3).toNat)
    case atStart => exact ⟨2, by omega, hS2, rfl, rfl⟩
    case round =>
      obtain ⟨s, h2, hle, rfl, rfl⟩ := hrel
      obtain ⟨hb, h7⟩ := bel_at n s hn (by omega) hle
      by_cases hlt : s < szOf n
      · obtain ⟨hnx, hbig⟩ := bel_next s h2 (by have := (szOf_bd n).2; omega)
        have Hnx := Lib.hid hnx
        have hge := hb.1 hlt
        have HS := Lib.hid hlt
        clear hnx hb hlt
        generalize bel.getD (s - 1) 0 = B at *
        have d2 : (B : Int) ≤ (n : Int) := by omega
        go_wp2
        go_round
        case rel => exact ⟨s + 1, by omega, HS.out, by go_num, by rw [← Hnx.out]; go_num⟩
        case measure => have := HS.out; simp [intOf]; omega
      · have hge : ¬ bel.getD (s - 1) 0 ≤ n := fun h => hlt (hb.2 h)
        have hs : s = szOf n := by omega
        have HS := Lib.hid hs
        clear hb hlt hs
        generalize bel.getD (s - 1) 0 = B at *
        have d2 : decide (B ≤ n) = false := by simp; omega
        go_wp2
        go_ret
        exact ⟨by rw [← HS.out]; rfl, rfl⟩

theorem Tryd.info_int : (Tryd.prog.info? 3).map (fun i => (i.zero, i.size, i.bytes)) = some (some (.int .i64 0), 1, 8) := by kernel_rfl
/-- bits as values -/
def bv (l : List Nat) : List Value := l.map fun (b : Nat) => iv (b : Int)
theorem bv_len (l : List Nat) : (bv l).length = l.length := by simp [bv]
theorem bv_append (a b : List Nat) : bv (a ++ b) = bv a ++ bv b := by simp [bv]
theorem i64_and1 (a : Nat) (h : a < 2 ^ 62) : bits .and .i64 (a : Int) 1 = ((a % 2 : Nat) : Int) := by
  have := i64_and_nat a 1 h (by decide)
  rw [Nat.and_one_is_mod] at this
  exact this
/-- a row of bits of the call's own -/
def Bitrow (w : World) (base : Nat) (v : Value) (l : List Nat) : Prop := w.ownsRow base 3 1 v l.length (bv l)
/-- .. more behind it -/
theorem wpList_append_bits {w : World} {ops : Array Oper} {rest : List Oper} {o : Oper} {a : Act} {Q : Exit → Act → World → Prop} (hgd : o.guard = none) (s x : Operand)
    (ho : o.op = .call { callee := .builtin .append, args := #[s, x], argTypes := #[42, 42] })
    (base : Nat) (v : Value) (l : List Nat) (hs : a.eval s = v) (hown : Bitrow w base v l)
    (H m c : Nat) (M : List Nat) (hx : a.eval x = .slice (some ⟨H, 0, none⟩) m c) (hm : M.length = m) (hbox : Box w H 3 (bv M).toArray) (h63 : l.length + M.length ≤ 1000000) (hbase : base ≤ w.heap.size)
    (h : ∀ v' w', Bitrow w' base v' (l ++ M) → w.grownBy w' v.ownBlock → wpList Tryd.prog ops Q rest (a.put o.dst v') w') :
    wpList Tryd.prog ops Q (o :: rest) a w := by
  obtain ⟨i0, hi, hz0, hz1, hz2⟩ := info_parts Tryd.info_int
  subst hm
  refine wpList_append_own _ hgd s x 42 ho base 3 i0 (.int .i64 0) 1 8 Tryd.underlying42 hi hz0 hz1 hz2 rfl (by decide) v l.length (bv l) hs hown ⟨H, 0, none⟩ M.length c (bv M) hx (by rw [bv_len, Nat.mul_one]) ?_ ?_ (by unfold maxLen; omega) (by omega) hbase ?_
  · intro j u hu
    rw [Addr.add_lit, Nat.zero_add, hbox.cell]
    simpa using hu
  · intro u hu
    obtain ⟨y, _, rfl⟩ := List.mem_map.1 hu
    rfl
  · intro v' w' h1 h2 _
    refine h v' w' ?_ h2
    unfold Bitrow
    rw [List.length_append, bv_append]
    exact h1
def numAt (bs : List Nat) (a n : Nat) : Nat := val (((bitsOf bs).drop a).take n)
theorem numAt_lt (bs : List Nat) (a n : Nat) : numAt bs a n < 2 ^ n := by
  have h := val_lt (((bitsOf bs).drop a).take n) (fun b hb => bitsOf_le bs b (List.mem_of_mem_drop (List.mem_of_mem_take hb)))
  exact Nat.lt_of_lt_of_le h (pow_le_of (by rw [List.length_take]; omega))
theorem numAt_succ (bs : List Nat) (a k b : Nat) (h : (bitsOf bs)[a + k]? = some b) : numAt bs a (k + 1) = numAt bs a k * 2 + b := by
  have hl : a + k < (bitsOf bs).length := (List.getElem?_eq_some_iff.1 h).1
  have h1 := val_more (bitsOf bs) a k 1 (by omega)
  have h2 : ((bitsOf bs).drop (a + k)).take 1 = [b] := by
    rw [List.drop_eq_getElem_cons hl, (List.getElem?_eq_some_iff.1 h).2]; rfl
  unfold numAt
  rw [h1, h2]
  simp [val]
theorem numAt_byte (bs : List Nat) (j : Nat) (h : j < bs.length) (hlt : ∀ x ∈ bs, x < 256) : numAt bs (8 * j) 8 = bs[j] := by
  have h1 := chunk bs (8 * j) 8 (by omega) (by omega)
  unfold numAt
  have e : 8 * j / 8 = j := by omega
  have hx := hlt _ (List.getElem_mem h)
  rw [h1]
  simp only [e]
  rw [show 8 - 8 * j % 8 - 8 = 0 from by omega, Nat.pow_zero, Nat.div_one, Nat.mod_eq_of_lt hx]

def OutP (w : World) (bs : List Nat) (s3 s4 : Value) (wr : World) : Prop :=
  ∃ j : Nat, j ≤ bs.length ∧ s4 = iv ((8 * j : Nat) : Int) ∧ wr.ownsRow w.heap.size 5 1 s3 j ((bs.take j).map byt) ∧ Only Nix w wr
def InP (bs : List Nat) (j : Nat) (s5 s6 : Value) : Prop := ∃ k : Nat, k ≤ 8 ∧ s6 = iv k ∧ s5 = iv (numAt bs (8 * j) k : Int)

set_option maxHeartbeats 1000000 in
theorem bytesRef_any {w : World} {base : Nat} {v : Value} {bs : List Nat} (h : Bitrow w base v (bitsOf bs)) (hlt256 : ∀ x ∈ bs, x < 256) (hbl : bs.length ≤ 100000) :
    Calls Tryd.prog 15 #[v] w fun e w' => ∃ v', e = .returned v' ∧ w'.ownsRow w.heap.size 5 1 v' bs.length (bs.map byt) ∧ Only Nix w w' := by
  obtain ⟨i0, hi, hz0, hz1, hz2⟩ := info_parts Tryd.info_byte
  obtain ⟨A0, c0, hv0⟩ := owns_slice h
  subst hv0
  have hl8 := bitsOf_len bs
  have Hh := Lib.hid h
  have Hlt := Lib.hid hlt256
  clear h hlt256
  rw [hl8]
  go_enter Tryd.func15, Tryd.ntmps15
  go_wp2
  go_loopw [3, 4] (fun s3 s4 wr => OutP w bs s3 s4 wr) (fun _ s4 _ => 8 * bs.length - (intOf s4).toNat)
  case atStart => exact ⟨0, Nat.zero_le _, rfl, World.ownsRow_nil _ _ _ _, Only.refl _ _⟩
  case round =>
    obtain ⟨j, hj, rfl, hown, ho⟩ := hrel
    obtain ⟨A4, c4, hv4⟩ := owns_slice hown
    subst hv4
    have Hown := Lib.hid hown
    have hsz := ho.size
    clear hown
    by_cases hlt : j < bs.length
    · have hc2 : 8 * (j : Int) < 8 * (bs.length : Int) := by omega
      go_wp2
      go_loop [5, 6] (fun s5 s6 => InP bs j s5 s6) (fun _ s6 => 8 - (intOf s6).toNat)
      case atStart => exact ⟨0, by omega, rfl, by simp [numAt, val]⟩
      case round =>
        obtain ⟨k, hk, rfl, rfl⟩ := hrel
        by_cases hk8 : k < 8
        · have hN := numAt_lt bs (8 * j) k
          have hN2 := pow_le_of (show k ≤ 8 by omega)
          have hN3 : numAt bs (8 * j) k ≤ 256 := by omega
          have hk8i : (k : Int) < 8 := by omega
          have hin : 8 * j + k < (bitsOf bs).length := by omega
          have hin3 : 8 * (j : Int) + (k : Int) < 8 * (bs.length : Int) := by omega
          obtain ⟨g, hg, hcell⟩ : ∃ g, A0 = some ⟨g, 0, none⟩ ∧ wr.cell? ⟨g, 8 * j + k, none⟩ = some (iv ((bitsOf bs)[8 * j + k] : Int)) := by
            have hw := owns_only Hh.out ho (fun _ _ e => e)
            rcases hw.2 with ⟨_, hn⟩ | ⟨g, cap, cur, hv9, _⟩
            · omega
            · injection hv9 with h8 _ h7
              subst h8 h7
              refine ⟨g, rfl, ?_⟩
              rw [hw.cellAt _ (by omega)]
              simp [bv, List.getElem?_eq_getElem hin]
          subst hg
          have hb1 : (bitsOf bs)[8 * j + k]? = some (bitsOf bs)[8 * j + k] := List.getElem?_eq_getElem hin
          have hle1 := bitsOf_le bs (bitsOf bs)[8 * j + k] (List.mem_of_getElem? hb1)
          have Hs := Lib.hid (numAt_succ bs (8 * j) k _ hb1)
          clear hb1 hN hN2
          generalize (bitsOf bs)[8 * j + k] = y at *
          generalize numAt bs (8 * j) k = N at *
          go_wp2
          go_round
          case rel => exact ⟨k + 1, by omega, by go_num, by rw [Hs.out]; go_num⟩
          case measure => simp [intOf]; omega
        · obtain rfl : k = 8 := by omega
          have hN := numAt_byte bs j hlt Hlt.out
          rw [hN]
          have hx := Hlt.out _ (List.getElem_mem hlt)
          have hts : (bs.take (j + 1)).map byt = (bs.take j).map byt ++ [byt bs[j]] := by rw [List.take_succ_eq_append_getElem hlt, List.map_append]; rfl
          have Hts := Lib.hid hts
          clear hN hts
          generalize bs[j] = y at *
          generalize (bs.take j).map byt = T at *
          have hym : (y : Int) % 256 = (y : Int) := by omega
          go_wp2_with (at_builtin; refine wpList_append_own _ rfl (.tmp 33) (.tmp 36) 22 rfl w.heap.size 5 i0 (.int .u8 0) 1 1 Tryd.underlying22 hi hz0 hz1 hz2 rfl (by decide) (.slice A4 j c4) j T rfl ?hown ⟨wr.heap.size, 0, none⟩ 1 1 [byt y] rfl rfl ?hnews ?h1 ?h63 ?hby ?hbase ?rest)
          case hown => exact Hown.out.alloc _
          case hnews => intro j u hu; simpa [byt] using hu
          case h1 => rfl
          case h63 => unfold maxLen; omega
          case hby => omega
          case hbase => omega
          case rest =>
            intro v3 w3 hown3 hgr _
            have ho3 : Only Nix w w3 := (ho.alloc _).grown hgr (fun q e => .inr (Hown.out.lt q e).1)
            obtain ⟨A5, c5, hv5⟩ := owns_slice hown3
            subst hv5
            have Hown3 := Lib.hid hown3
            clear hown3 hgr
            go_wp2
            go_roundw
            case rel => exact ⟨j + 1, by omega, by go_num, by rw [Hts.out]; exact Hown3.out, ho3⟩
            case measure => simp [intOf]; omega
    · obtain rfl : j = bs.length := by omega
      have hc2 : decide (8 * (bs.length : Int) < 8 * (bs.length : Int)) = false := by simp
      go_wp2
      go_ret
      exact ⟨_, rfl, by have h9 := Hown.out; rw [List.take_length] at h9; exact h9, ho⟩
end Go.Proofs.YthjilkgljobfhaaDoor
