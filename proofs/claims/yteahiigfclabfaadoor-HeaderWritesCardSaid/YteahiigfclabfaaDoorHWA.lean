/-
  The document's answer: bits, and the rest of eight bits.
-/
import Derived.Test.YteahiigfclabfaaDoorHG4
namespace Go.Proofs.YteahiigfclabfaaDoor.U
open Go.RowKit

theorem Tryd.info_int : (Tryd.prog.info? 3).map (fun i => (i.zero, i.size, i.bytes)) = some (some (.int .i64 0), 1, 8) := by kernel_rfl

/-- bits as values -/
def bv (l : List Nat) : List Value := l.map fun (b : Nat) => iv (b : Int)
theorem bv_len (l : List Nat) : (bv l).length = l.length := by simp [bv]
theorem bv_append (a b : List Nat) : bv (a ++ b) = bv a ++ bv b := by simp [bv]
theorem i64_and1 (a : Nat) (h : a < 2 ^ 62) : bits .and .i64 (a : Int) 1 = ((a % 2 : Nat) : Int) := by
  have := i64_and_nat a 1 h (by decide)
  rw [Nat.and_one_is_mod] at this
  exact this
theorem bits_take (x j : Nat) (hj : j < 8) : (bitsN 8 x).take (j + 1) = (bitsN 8 x).take j ++ [x / 2 ^ (7 - j) % 2] := by
  have h : j = 0 ∨ j = 1 ∨ j = 2 ∨ j = 3 ∨ j = 4 ∨ j = 5 ∨ j = 6 ∨ j = 7 := by omega
  rcases h with rfl | rfl | rfl | rfl | rfl | rfl | rfl | rfl <;> simp [bitsN]

def OutB (w : World) (bs : List Nat) (s3 s4 : Value) (wr : World) : Prop :=
  ∃ i : Nat, i ≤ bs.length ∧ s4 = iv i ∧ wr.ownsRow w.heap.size 3 1 s3 (8 * i) (bv (bitsOf (bs.take i))) ∧ Only Nix w wr
def InB (w : World) (bs : List Nat) (i x : Nat) (s3 s5 : Value) (wr : World) : Prop :=
  ∃ j : Nat, j ≤ 8 ∧ s5 = iv (7 - (j : Int)) ∧ wr.ownsRow w.heap.size 3 1 s3 (8 * i + j) (bv (bitsOf (bs.take i) ++ (bitsN 8 x).take j)) ∧ Only Nix w wr

set_option maxRecDepth 100000 in
set_option maxHeartbeats 2000000 in
theorem bitsRef_any {w : World} {v0 : Value} {bs : List Nat} (h : Src w v0 bs) (hl : bs.length ≤ 400) :
    Calls Tryd.prog 39 #[v0] w fun e w' => ∃ v, e = .returned v ∧ w'.ownsRow w.heap.size 3 1 v (8 * bs.length) (bv (bitsOf bs)) ∧ Only Nix w w' := by
  obtain ⟨A, c, hv⟩ := h.slice
  subst hv
  obtain ⟨i0, hi, hz0, hz1, hz2⟩ := info_parts Tryd.info_int
  go_enter Tryd.func39, Tryd.ntmps39
  go_wp2
  go_loopw [3, 4] (fun s3 s4 wr => OutB w bs s3 s4 wr) (fun _ s4 _ => bs.length - (intOf s4).toNat)
  case atStart => exact ⟨0, Nat.zero_le _, rfl, World.ownsRow_nil _ _ _ _, Only.refl _ _⟩
  case round =>
    obtain ⟨i, hi1, rfl, hown, ho⟩ := hrel
    by_cases hlt1 : i < bs.length
    · obtain ⟨ad, e1, hx⟩ := (h.nix ho).at_ hlt1
      subst e1
      have hx256 := h.lt _ (List.getElem_mem hlt1)
      have hbi : bitsOf (bs.take (i + 1)) = bitsOf (bs.take i) ++ bitsN 8 bs[i] := by
        rw [List.take_succ_eq_append_getElem hlt1, bitsOf_append, bitsOf_cons, bitsOf_nil, List.append_nil]
      have Hbi := Lib.hid hbi
      have hxk : ∀ u, Only Nix w u → u.cell? (ad.add i) = some (byt bs[i]) := fun u hu => by
        obtain ⟨ad', e, hc⟩ := (h.nix hu).at_ hlt1
        injection e with e
        subst e
        exact hc
      have Hxk := Lib.hid hxk
      clear hbi hxk hx
      generalize bs[i] = x at *
      have hlt2 : (i : Int) < (bs.length : Int) := by omega
      obtain ⟨A3, c3, hv3⟩ := owns_slice hown
      subst hv3
      have Hown := Lib.hid hown
      clear hown
      go_wp2
      go_loopw [3, 5] (fun s3 s5 wi => InB w bs i x s3 s5 wi) (fun _ s5 _ => (intOf s5 + 1).toNat)
      case atStart => exact ⟨0, by omega, rfl, by simpa using Hown.out, ho⟩
      case round =>
        clear ho Hown
        obtain ⟨j, hj, rfl, hown, ho⟩ := hrel
        obtain ⟨A4, c4, hv4⟩ := owns_slice hown
        subst hv4
        by_cases hj8 : j < 8
        · have hxx := Hxk.out _ ho
          unfold byt at hxx
          obtain ⟨k, hk⟩ : ∃ k : Nat, 7 - (j : Int) = (k : Int) ∧ k + j = 7 := ⟨7 - j, by omega, by omega⟩
          rw [hk.1]
          have hk7 : k ≤ 7 := by omega
          have hge : (0 : Int) ≤ (k : Int) := by omega
          have Hown := Lib.hid hown
          have Hk := Lib.hid hk
          have hsz := ho.size
          clear hown hk
          go_wp2_with (at_builtin; refine wpList_append_own _ rfl (.tmp 16) (.tmp 25) 69 rfl w.heap.size 3 i0 (.int .i64 0) 1 8 Tryd.underlying69 hi hz0 hz1 hz2 rfl (by decide) (.slice A4 (8 * i + j) c4) (8 * i + j) (bv (bitsOf (bs.take i) ++ (bitsN 8 x).take j)) rfl ?hown ⟨wr.heap.size, 0, none⟩ 1 1 [.int .i64 (bits .and .i64 ((x : Int) / 2 ^ k) 1)] rfl ?hl ?hnews ?h1 ?h63 ?hby ?hbase ?rest)
          case hown => exact Hown.out.alloc _
          case hl => rfl
          case hnews =>
            intro j u hu
            rw [Addr.add_lit]
            match j, hu with
            | 0, hu => simp at hu; subst hu; simp
          case h1 => intro u hu; simp at hu; subst hu; rfl
          case h63 => unfold maxLen; omega
          case hby => omega
          case hbase => simp; omega
          case rest =>
            intro v3 w3 hown3 hgr _
            have ho3 : Only Nix w w3 := (ho.alloc _).grown hgr (fun g e => .inr (Hown.out.lt g e).1)
            obtain ⟨A5, c5, hv5⟩ := owns_slice hown3
            subst hv5
            have Hown3 := Lib.hid hown3
            clear hown3 hgr
            go_wp2
            go_roundw
            case rel =>
              refine ⟨j + 1, by omega, by have := Hk.out; go_num, ?_, ho3⟩
              have hk := Hk.out
              have e5 : (x : Int) / 2 ^ k = ((x / 2 ^ k : Nat) : Int) := by rw [pow_cast, ← Int.natCast_ediv]
              have hle : x / 2 ^ k ≤ x := Nat.div_le_self _ _
              have h3 := Hown3.out
              rw [e5, i64_and1 _ (by omega), show k = 7 - j from by omega] at h3
              rw [bits_take x j hj8, ← List.append_assoc, bv_append]
              exact h3
            case measure => have := Hk.out; first | (simp [intOf]; done) | (simp [intOf]; omega)
        · obtain rfl : j = 8 := by omega
          have hge : ¬ (0 : Int) ≤ 7 - ((8 : Nat) : Int) := by omega
          have Hown := Lib.hid hown
          clear hown
          go_wp2
          go_roundw
          case rel =>
            refine ⟨i + 1, by omega, by go_num, ?_, ho⟩
            have h3 := Hown.out
            rw [List.take_of_length_le (l := bitsN 8 x) (by rw [bitsN_len]; exact Nat.le_refl _), ← Hbi.out] at h3
            exact h3
          case measure => simp [intOf]; omega
    · obtain rfl : i = bs.length := by omega
      go_wp2
      go_ret
      exact ⟨_, rfl, by rw [List.take_length] at hown; exact hown, ho⟩


/-- The slice v0 holds these bits. -/
def BitsIn (w : World) (v0 : Value) (l : List Nat) : Prop :=
  ∃ A c, v0 = .slice A l.length c ∧ ∀ j, (hj : j < l.length) → ∃ ad, A = some ad ∧ w.cell? (ad.add j) = some (iv (l[j] : Int))
theorem BitsIn.of_owns {w : World} {base n : Nat} {v : Value} {l : List Nat} (hn : n = l.length) (h : w.ownsRow base 3 1 v n (bv l)) : BitsIn w v l := by
  subst hn
  rcases h.2 with ⟨rfl, hn⟩ | ⟨g, cap, cur, rfl, hb, hg, rest⟩
  · obtain rfl := List.eq_nil_of_length_eq_zero hn
    exact ⟨none, 0, rfl, fun j hj => by simp at hj⟩
  · refine ⟨_, cap, rfl, fun j hj => ⟨_, rfl, ?_⟩⟩
    rw [Addr.add_lit, Nat.zero_add, h.cellAt j (by omega)]
    simp [bv, hj]

def Left8 (l : List Nat) (s7 s8 : Value) : Prop := ∃ i : Nat, i ≤ l.length + 8 ∧ s8 = iv i ∧ s7 = iv (nous 8 7 (i - l.length) (feed 8 7 0 (l.take i)) : Nat)

set_option maxRecDepth 100000 in
set_option maxHeartbeats 2000000 in
theorem left_8 {w : World} {v0 : Value} {l : List Nat} (h : BitsIn w v0 l) (h1 : ∀ b ∈ l, b ≤ 1) (hl : l.length ≤ 4000) :
    Calls Tryd.prog 58 #[v0, iv 8, iv 7] w fun e w' => e = .returned (iv (nous 8 7 8 (feed 8 7 0 l) : Nat)) ∧ w = w' := by
  obtain ⟨A, c, hv, hc⟩ := h
  subst hv
  have HC := Lib.hid hc
  clear hc
  go_enter Tryd.func58, Tryd.ntmps58
  go_wp2
  go_loop [7, 8] (fun s7 s8 => Left8 l s7 s8) (fun _ s8 => l.length + 8 - (intOf s8).toNat)
  case atStart => exact ⟨0, Nat.zero_le _, rfl, by rw [List.take_zero, feed_nil, nous_zero]; rfl⟩
  case round =>
    obtain ⟨i, hi, rfl, rfl⟩ := hrel
    have hx : nous 8 7 (i - l.length) (feed 8 7 0 (l.take i)) < 256 := nous_lt (n := 8) (by decide) _ _ (feed_lt (by decide) (by decide) 0 _ (by decide) (fun b hb => h1 b (List.mem_of_mem_take hb)))
    by_cases hlt : i < l.length
    · obtain ⟨ad, e1, hcell⟩ := HC.out i hlt
      subst e1
      have hb := h1 _ (List.getElem_mem hlt)
      have d1 : (i : Int) < (l.length : Int) + 8 := by omega
      have d2 : (i : Int) < (l.length : Int) := by omega
      have hst : Hid (nous 8 7 (i + 1 - l.length) (feed 8 7 0 (l.take (i + 1))) = if 2 ^ 8 ≤ 2 * nous 8 7 (i - l.length) (feed 8 7 0 (l.take i)) + l[i] then (2 * nous 8 7 (i - l.length) (feed 8 7 0 (l.take i)) + l[i] - 2 ^ 8) ^^^ 7 else 2 * nous 8 7 (i - l.length) (feed 8 7 0 (l.take i)) + l[i]) := by
        show _ = _
        rw [← ref_step (n := 8) (by decide) hx hb, List.take_succ_eq_append_getElem hlt, feed_append, show i + 1 - l.length = 0 from by omega, show i - l.length = 0 from by omega]
        rfl
      generalize nous 8 7 (i - l.length) (feed 8 7 0 (l.take i)) = x at *
      generalize l[i] = y at *
      by_cases hp : 256 ≤ 2 * x + y
      · have hp2 : (256 : Int) ≤ 2 * (x : Int) + (y : Int) := by omega
        have hq : Hid (bits .xor .i64 (2 * (x : Int) + (y : Int) - 256) 7 = ((nous 8 7 (i + 1 - l.length) (feed 8 7 0 (l.take (i + 1))) : Nat) : Int)) := by
          show _ = _
          rw [hst.out, if_pos (by omega), show 2 * (x : Int) + (y : Int) - 256 = ((2 * x + y - 2 ^ 8 : Nat) : Int) from by omega]
          exact i64_xor_nat _ 7 (by omega) (by decide)
        go_wp2
        go_round
        case rel => exact ⟨i + 1, by omega, by go_num, congrArg iv hq.out⟩
        case measure => simp [intOf]; omega
      · have hp2 : ¬ (256 : Int) ≤ 2 * (x : Int) + (y : Int) := by omega
        go_wp2
        go_round
        case rel => exact ⟨i + 1, by omega, by go_num, by rw [hst.out, if_neg (by omega)]; go_num⟩
        case measure => simp [intOf]; omega
    · have d2 : ¬ (i : Int) < (l.length : Int) := by omega
      by_cases hlt2 : i < l.length + 8
      · have d1 : (i : Int) < (l.length : Int) + 8 := by omega
        have hst : Hid (nous 8 7 (i + 1 - l.length) (feed 8 7 0 (l.take (i + 1))) = if 2 ^ 8 ≤ 2 * nous 8 7 (i - l.length) (feed 8 7 0 (l.take i)) + 0 then (2 * nous 8 7 (i - l.length) (feed 8 7 0 (l.take i)) + 0 - 2 ^ 8) ^^^ 7 else 2 * nous 8 7 (i - l.length) (feed 8 7 0 (l.take i)) + 0) := by
          show _ = _
          rw [← ref_step (n := 8) (by decide) hx (by decide), Nat.xor_zero, List.take_of_length_le (by omega), List.take_of_length_le (by omega), show i + 1 - l.length = (i - l.length) + 1 from by omega]
          exact nous_nou 8 7 _ _
        generalize nous 8 7 (i - l.length) (feed 8 7 0 (l.take i)) = x at *
        by_cases hp : 256 ≤ 2 * x
        · have hp2 : (256 : Int) ≤ 2 * (x : Int) := by omega
          have hq : Hid (bits .xor .i64 (2 * (x : Int) - 256) 7 = ((nous 8 7 (i + 1 - l.length) (feed 8 7 0 (l.take (i + 1))) : Nat) : Int)) := by
            show _ = _
            rw [hst.out, if_pos (by omega), show 2 * (x : Int) - 256 = ((2 * x + 0 - 2 ^ 8 : Nat) : Int) from by omega]
            exact i64_xor_nat _ 7 (by omega) (by decide)
          go_wp2
          go_round
          case rel => exact ⟨i + 1, by omega, by go_num, congrArg iv hq.out⟩
          case measure => simp [intOf]; omega
        · have hp2 : ¬ (256 : Int) ≤ 2 * (x : Int) := by omega
          go_wp2
          go_round
          case rel => exact ⟨i + 1, by omega, by go_num, by rw [hst.out, if_neg (by omega)]; go_num⟩
          case measure => simp [intOf]; omega
      · obtain rfl : i = l.length + 8 := by omega
        have d1 : ¬ ((l.length + 8 : Nat) : Int) < (l.length : Int) + 8 := by omega
        go_wp2
        go_ret
        exact ⟨ret1 (by rw [List.take_of_length_le (by omega)]), rfl⟩

set_option maxRecDepth 100000 in
set_option maxHeartbeats 2000000 in
theorem refSum_8 {w : World} {v0 : Value} {bs : List Nat} (h : Src w v0 bs) (hl : bs.length ≤ 400) :
    Calls Tryd.prog 42 #[v0] w fun e w' => e = .returned (iv (sm 8 7 bs : Nat)) ∧ Only Nix w w' := by
  have hx := left_sm 8 7 bs (by decide) h.lt
  have HX := Lib.hid hx
  clear hx
  go_enter Tryd.func42, Tryd.ntmps42
  go_wp2_with fail
  refine (bitsRef_any h hl).mono ?_
  rintro e w1 ⟨v, rfl, hown, ho⟩
  have H := Lib.hid (left_8 (BitsIn.of_owns (bitsOf_len bs).symm hown) (bitsOf_le bs) (by rw [bitsOf_len]; omega))
  obtain ⟨A3, c3, hv3⟩ := owns_slice hown
  subst hv3
  clear hown
  go_wp2_with fail
  refine (H.out).mono ?_
  rintro e w2 ⟨rfl, rfl⟩
  go_wp2
  go_ret
  exact ⟨ret1 (by rw [HX.out]), ho⟩
end Go.Proofs.YteahiigfclabfaaDoor.U
