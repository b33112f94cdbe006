/-
  The document's answer: Bits, Number.
-/
import Derived.Test.YteklfkpeaadinaaGreatDoorPCG09
import Derived.Deep.AppendLies
import Derived.Laws.AppendOwnNone
namespace Go.Proofs.YteklfkpeaadinaaGreatDoor
open Go.RowKit


/-- bits as values -/
def bv (l : List Nat) : List Value := l.map fun (b : Nat) => iv (b : Int)
theorem bv_len (l : List Nat) : (bv l).length = l.length := by simp [bv]
theorem bv_append (a b : List Nat) : bv (a ++ b) = bv a ++ bv b := by simp [bv]
theorem i64_and1 (a : Nat) (h : a < 2 ^ 62) : bits .and .i64 (a : Int) 1 = ((a % 2 : Nat) : Int) := by
  have := i64_and_nat a 1 h (by decide)
  rw [Nat.and_one_is_mod] at this
  exact this
theorem bits_take (x j : Nat) (hj : j < 8) : (bitsN 8 x).take (j + 1) = (bitsN 8 x).take j ++ [x / 2 ^ (7 - j) % 2] := by
  have h : j = 0 ∨ j = 1 ∨ j = 2 ∨ j = 3 ∨ j = 4 ∨ j = 5 ∨ j = 6 ∨ j = 7 := by omega
  rcases h with rfl | rfl | rfl | rfl | rfl | rfl | rfl | rfl <;> simp [bitsN]
def OutB (w : World) (bs : List Nat) (s3 s4 : Value) (wr : World) : Prop :=
  ∃ i : Nat, i ≤ bs.length ∧ s4 = iv i ∧ wr.ownsRow w.heap.size 3 1 s3 (8 * i) (bv (bitsOf (bs.take i))) ∧ Only Nix w wr
def InB (w : World) (bs : List Nat) (i x : Nat) (s3 s5 : Value) (wr : World) : Prop :=
  ∃ j : Nat, j ≤ 8 ∧ s5 = iv (7 - (j : Int)) ∧ wr.ownsRow w.heap.size 3 1 s3 (8 * i + j) (bv (bitsOf (bs.take i) ++ (bitsN 8 x).take j)) ∧ Only Nix w wr
set_option maxRecDepth 100000 in
set_option maxHeartbeats 1000000 in
theorem bitsRef_any {w : World} {v0 : Value} {bs : List Nat} (h : Src w v0 bs) (hl : bs.length ≤ 300) (hlt : ∀ x ∈ bs, x < 256) :
    Calls Tryz.prog 20 #[v0] w fun e w' => ∃ v, e = .returned v ∧ w'.ownsRow w.heap.size 3 1 v (8 * bs.length) (bv (bitsOf bs)) ∧ Only Nix w w' := by
  obtain ⟨A, c, hv⟩ := h.slice
  subst hv
  obtain ⟨i0, hi, hz0, hz1, hz2⟩ := info_parts Tryz.info_int
  go_enter Tryz.func20, Tryz.ntmps20
  go_wp2
  go_loopw [3, 4] (fun s3 s4 wr => OutB w bs s3 s4 wr) (fun _ s4 _ => bs.length - (intOf s4).toNat)
  case atStart => exact ⟨0, Nat.zero_le _, rfl, World.ownsRow_nil _ _ _ _, Only.refl _ _⟩
  case round =>
    obtain ⟨i, hi1, rfl, hown, ho⟩ := hrel
    by_cases hlt1 : i < bs.length
    · obtain ⟨ad, c', e1, hx⟩ := (h.nix ho).at_ hlt1
      injection e1 with e1 _ e2
      subst e1 e2
      have hx256 := hlt _ (List.getElem_mem hlt1)
      have hbi : bitsOf (bs.take (i + 1)) = bitsOf (bs.take i) ++ bitsN 8 bs[i] := by
        rw [List.take_succ_eq_append_getElem hlt1, bitsOf_append, bitsOf_cons, bitsOf_nil, List.append_nil]
      have Hbi := Lib.hid hbi
      have hxk : ∀ u, Only Nix w u → u.cell? (ad.add i) = some (byt bs[i]) := fun u hu => by
        obtain ⟨ad', c'', e, hc⟩ := (h.nix hu).at_ hlt1
        injection e with e _ _
        injection e with e
        subst e
        exact hc
      have Hxk := Lib.hid hxk
      clear hbi hxk hx
      generalize bs[i] = x at *
      have hlt2 : (i : Int) < (bs.length : Int) := by omega
      obtain ⟨A3, c3, hv3⟩ := owns_slice hown
      subst hv3
      have Hown := Lib.hid hown
      clear hown
      go_wp2
      go_loopw [3, 5] (fun s3 s5 wi => InB w bs i x s3 s5 wi) (fun _ s5 _ => (intOf s5 + 1).toNat)
      case atStart => exact ⟨0, by omega, rfl, by simpa using Hown.out, ho⟩
      case round =>
        clear ho Hown
        obtain ⟨j, hj, rfl, hown, ho⟩ := hrel
        obtain ⟨A4, c4, hv4⟩ := owns_slice hown
        subst hv4
        by_cases hj8 : j < 8
        · have hxx := Hxk.out _ ho
          unfold byt at hxx
          obtain ⟨k, hk⟩ : ∃ k : Nat, 7 - (j : Int) = (k : Int) ∧ k + j = 7 := ⟨7 - j, by omega, by omega⟩
          rw [hk.1]
          have hk7 : k ≤ 7 := by omega
          have hge : (0 : Int) ≤ (k : Int) := by omega
          have Hown := Lib.hid hown
          have Hk := Lib.hid hk
          have hsz := ho.size
          clear hown hk
          go_wp2_with (at_builtin; refine wpList_append_own _ rfl (.tmp 16) (.tmp 25) 22 rfl w.heap.size 3 i0 (.int .i64 0) 1 8 Tryz.underlying22 hi hz0 hz1 hz2 rfl (by decide) (.slice A4 (8 * i + j) c4) (8 * i + j) (bv (bitsOf (bs.take i) ++ (bitsN 8 x).take j)) rfl ?hown ⟨wr.heap.size, 0, none⟩ 1 1 [.int .i64 (bits .and .i64 ((x : Int) / 2 ^ k) 1)] rfl ?hl ?hnews ?h1 ?h63 ?hby ?hbase ?rest)
          case hown => exact Hown.out.alloc _
          case hl => rfl
          case hnews =>
            intro j u hu
            rw [Addr.add_lit]
            match j, hu with
            | 0, hu => simp at hu; subst hu; simp
          case h1 => intro u hu; simp at hu; subst hu; rfl
          case h63 => unfold maxLen; omega
          case hby => omega
          case hbase => simp; omega
          case rest =>
            intro v3 w3 hown3 hgr _
            have ho3 : Only Nix w w3 := (ho.alloc _).grown hgr (fun g e => .inr (Hown.out.lt g e).1)
            obtain ⟨A5, c5, hv5⟩ := owns_slice hown3
            subst hv5
            have Hown3 := Lib.hid hown3
            clear hown3 hgr
            go_wp2
            go_roundw
            case rel =>
              refine ⟨j + 1, by omega, by have := Hk.out; go_num, ?_, ho3⟩
              have hk := Hk.out
              have e5 : (x : Int) / 2 ^ k = ((x / 2 ^ k : Nat) : Int) := by rw [pow_cast, ← Int.natCast_ediv]
              have hle : x / 2 ^ k ≤ x := Nat.div_le_self _ _
              have h3 := Hown3.out
              rw [e5, i64_and1 _ (by omega), show k = 7 - j from by omega] at h3
              rw [bits_take x j hj8, ← List.append_assoc, bv_append]
              exact h3
            case measure => have := Hk.out; first | (simp [intOf]; done) | (simp [intOf]; omega)
        · obtain rfl : j = 8 := by omega
          have hge : ¬ (0 : Int) ≤ 7 - ((8 : Nat) : Int) := by omega
          have Hown := Lib.hid hown
          clear hown
          go_wp2
          go_roundw
          case rel =>
            refine ⟨i + 1, by omega, by go_num, ?_, ho⟩
            have h3 := Hown.out
            rw [List.take_of_length_le (l := bitsN 8 x) (by rw [bitsN_len]; exact Nat.le_refl _), ← Hbi.out] at h3
            exact h3
          case measure => simp [intOf]; omega
    · obtain rfl : i = bs.length := by omega
      go_wp2
      go_ret
      exact ⟨_, rfl, by rw [List.take_length] at hown; exact hown, ho⟩
/-- Number: of bits, the first one less if signed -/
def refNum (s : Bool) (l : List Nat) : Int := if s = true then (val l : Int) - (l.headD 0 : Int) * 2 ^ l.length else (val l : Int)
theorem refNum_one (s : Bool) (b : Nat) : refNum s [b] = if s = true then -(b : Int) else (b : Int) := by
  unfold refNum
  cases s
  · simp [val]
  · simp [val]; omega
theorem refNum_snoc (s : Bool) (l : List Nat) (b : Nat) (hl : l ≠ []) : refNum s (l ++ [b]) = 2 * refNum s l + (b : Int) := by
  unfold refNum
  have e : val (l ++ [b]) = val l * 2 + b := by rw [val_append]; simp [val]
  have eh : (l ++ [b]).headD 0 = l.headD 0 := by
    cases l with
    | nil => exact absurd rfl hl
    | cons x l => rfl
  rw [e, eh, List.length_append, List.length_singleton, Int.pow_succ]
  cases s
  · simp; omega
  · simp only [if_true]
    rw [← Int.mul_assoc]
    generalize (l.headD 0 : Int) * 2 ^ l.length = z
    omega
theorem refNum_bd (s : Bool) (l : List Nat) (h1 : ∀ b ∈ l, b ≤ 1) (h : l.length ≤ 48) : -281474976710656 ≤ refNum s l ∧ refNum s l ≤ 281474976710656 := by
  have hv := val_lt l h1
  have hp := pow_le_of h
  have hh : l.headD 0 ≤ 1 := by
    cases l with
    | nil => simp
    | cons x l => exact h1 x (List.mem_cons_self ..)
  unfold refNum
  rw [pow_cast]
  generalize 2 ^ l.length = P at *
  have hm : (l.headD 0 : Int) * (P : Int) = 0 ∨ (l.headD 0 : Int) * (P : Int) = (P : Int) := by
    rcases Nat.eq_zero_or_pos (l.headD 0) with e | e
    · left; rw [e]; simp
    · right; rw [show l.headD 0 = 1 from by omega]; simp
  split
  · rcases hm with e | e <;> rw [e] <;> omega
  · omega
/-- The slice v0 holds these bits. -/
def BitsIn (w : World) (v0 : Value) (l : List Nat) : Prop :=
  (∃ A c, v0 = .slice A 0 c ∧ l = []) ∨ ∃ b off c, v0 = .slice (some ⟨b, off, none⟩) l.length c ∧ ∀ j, (hj : j < l.length) → w.cell? ⟨b, off + j, none⟩ = some (iv (l[j] : Int))
def NumbRel (l : List Nat) (s : Bool) (s5 s6 : Value) : Prop := ∃ i : Nat, i ≤ l.length ∧ s6 = iv i ∧ s5 = iv (refNum s (l.take i))
set_option maxRecDepth 100000 in
set_option maxHeartbeats 1000000 in
theorem numberRef_any {w : World} {v0 : Value} {l : List Nat} (s : Bool) (h : BitsIn w v0 l) (h1 : ∀ b ∈ l, b ≤ 1) (hl : l.length ≤ 48) :
    Calls Tryz.prog 86 #[v0, .bool s] w fun e w' => e = .returned (.int .i64 (refNum s l)) ∧ w = w' := by
  obtain ⟨A, c, hv⟩ : ∃ A c, v0 = .slice A l.length c := by
    rcases h with ⟨A, c, hv, rfl⟩ | ⟨b, off, c, hv, _⟩
    · exact ⟨A, c, hv⟩
    · exact ⟨_, c, hv⟩
  subst hv
  have e0 : refNum s [] = 0 := by cases s <;> rfl
  go_enter Tryz.func86, Tryz.ntmps86
  go_wp2
  go_loop [5, 6] (fun s5 s6 => NumbRel l s s5 s6) (fun _ s6 => l.length - (intOf s6).toNat)
  case atStart => exact ⟨0, Nat.zero_le _, rfl, by rw [List.take_zero, e0]⟩
  case round =>
    clear e0
    obtain ⟨i, hi, rfl, rfl⟩ := hrel
    by_cases hlt : i < l.length
    · rcases h with ⟨_, _, _, rfl⟩ | ⟨b, off, c', hv, hc⟩
      · simp at hlt
      · injection hv with e1 _ e2
        subst e1 e2
        have hx := hc i hlt
        have hx0 := hc 0 (by omega)
        have hbl := h1 _ (List.getElem_mem hlt)
        have hbl0 := h1 _ (List.getElem_mem (show 0 < l.length by omega))
        have hbd := refNum_bd s (l.take i) (fun b hb => h1 b (List.mem_of_mem_take hb)) (by have := List.length_take_le i l; omega)
        have hts : l.take (i + 1) = l.take i ++ [l[i]] := List.take_succ_eq_append_getElem hlt
        have hlt2 : (i : Int) < (l.length : Int) := by omega
        have hp0 : (0 : Int) < (l.length : Int) := by omega
        have hstep : Hid (refNum s (l.take (i + 1)) = if i = 0 then (if s = true then -(l[i] : Int) else (l[i] : Int)) else 2 * refNum s (l.take i) + (l[i] : Int)) := by
          show _ = _
          rw [hts]
          split
          · rename_i e; subst e; rw [List.take_zero, List.nil_append, refNum_one]
          · rename_i e
            exact refNum_snoc s _ _ (fun hn => e (by have := congrArg List.length hn; rw [List.length_take, List.length_nil] at this; omega))
        by_cases hi0 : i = 0
        · subst hi0
          have hr0 : refNum s (l.take 0) = 0 := by rw [List.take_zero]; cases s <;> rfl
          rw [hr0] at hbd ⊢
          simp only [Nat.add_zero] at hx hx0
          clear hts hr0 hc
          generalize l[0] = y at *
          cases s
          · go_wp2
            go_round
            case rel => exact ⟨1, by omega, by go_num, by rw [hstep.out]; simp⟩
            case measure => simp [intOf]; omega
          · go_wp2
            go_round
            case rel => exact ⟨1, by omega, by go_num, by rw [hstep.out]; simp⟩
            case measure => simp [intOf]; omega
        · have hib : ((i : Int) == 0) = false := by rw [beq_eq_false_iff_ne]; omega
          clear hts hx0 hc
          generalize l[i] = y at *
          generalize refNum s (l.take i) = R at *
          go_wp2
          go_round
          case rel => exact ⟨i + 1, by omega, by go_num, by rw [hstep.out, if_neg hi0]⟩
          case measure => simp [intOf]; omega
    · obtain rfl : i = l.length := by omega
      go_wp2
      go_ret
      exact ⟨rfl, rfl⟩
end Go.Proofs.YteklfkpeaadinaaGreatDoor
namespace Go.Proofs.YteklfkpeaadinaaGreatDoor
open Go.RowKit

/-- the slice's own block -/
def RF (v : Value) (k : Nat) : Prop := v.ownBlock = some k
/-- A row of bits of the statement's own. -/
def Bitrow (w : World) (base : Nat) (v : Value) (l : List Nat) : Prop := w.ownsRow base 3 1 v l.length (bv l)
theorem bits_int (x : Int) (k n : Nat) (h : k < n) : bits .and .i64 (x / 2 ^ k) 1 = (((x % 2 ^ n).toNat / 2 ^ k % 2 : Nat) : Int) := by
  have h1 := i64_low (x / 2 ^ k) 1 (by omega)
  have e : wrap64 (wrap64 ((2 : Int) ^ 1) - 1) = 1 := by rw [w64_mask 1 (by omega)]; rfl
  rw [e] at h1
  rw [h1]
  have h2 := int_piece x n k 1 (by omega)
  simpa using h2
theorem bitsN_snoc (n U j : Nat) (hj : j < n) : (bitsN n U).take (j + 1) = (bitsN n U).take j ++ [U / 2 ^ (n - 1 - j) % 2] := by
  have hl := bitsN_len n U
  rw [List.take_succ_eq_append_getElem (by omega)]
  congr 2
  have h1 := bitsN_piece n U j 1 (by omega)
  have h2 : ((bitsN n U).drop j).take 1 = [(bitsN n U)[j]'(by omega)] := by rw [List.drop_eq_getElem_cons (by omega)]; rfl
  rw [h2] at h1
  have h3 := (List.cons.inj h1).1
  rw [h3, show n - j - 1 = n - 1 - j from by omega]; simp
/-- Number of what was told: the number itself just where it is one of n bits -/
theorem refNum_put (n : Nat) (x : Int) : refNum false (bitsN n (x % 2 ^ n).toNat) = x ↔ 0 ≤ x ∧ x < 2 ^ n := by
  unfold refNum
  have hp : 0 < 2 ^ n := Nat.two_pow_pos n
  rw [if_neg (by simp), val_bitsN, pow_cast]
  have h0 : 0 ≤ x % ((2 ^ n : Nat) : Int) := Int.emod_nonneg _ (by omega)
  have h1 : x % ((2 ^ n : Nat) : Int) < ((2 ^ n : Nat) : Int) := Int.emod_lt_of_pos _ (by omega)
  generalize 2 ^ n = P at *
  rw [Nat.mod_eq_of_lt (by omega), Int.toNat_of_nonneg h0]
  constructor
  · intro e; omega
  · rintro ⟨a, b⟩; exact Int.emod_eq_of_lt a b
theorem refNum_sgn (n : Nat) (x : Int) : refNum true (bitsN n (x % 2 ^ n).toNat) = x ↔ isS n x := by
  unfold refNum isS
  rw [if_pos rfl, bitsN_len, val_bitsN]
  rcases Nat.eq_zero_or_pos n with rfl | hp
  · simp [bitsN]; omega
  · obtain ⟨k, rfl⟩ : ∃ k, n = k + 1 := ⟨n - 1, by omega⟩
    rw [if_neg (by omega), Nat.add_sub_cancel]
    have hpk : 0 < 2 ^ k := Nat.two_pow_pos k
    have hhd : (bitsN (k + 1) (x % 2 ^ (k + 1)).toNat).headD 0 = (x % 2 ^ (k + 1)).toNat / 2 ^ k % 2 := rfl
    rw [hhd, pow_cast (k + 1), pow_cast k, Nat.pow_succ]
    have h0 : 0 ≤ x % ((2 ^ k * 2 : Nat) : Int) := Int.emod_nonneg _ (by omega)
    have h1 : x % ((2 ^ k * 2 : Nat) : Int) < ((2 ^ k * 2 : Nat) : Int) := Int.emod_lt_of_pos _ (by omega)
    have h2 := Int.emod_add_mul_ediv x ((2 ^ k * 2 : Nat) : Int)
    generalize x / ((2 ^ k * 2 : Nat) : Int) = t at *
    obtain ⟨U, hU⟩ := Int.eq_ofNat_of_zero_le h0
    rw [hU] at h1 h2 ⊢
    rw [Int.toNat_natCast, Nat.mod_eq_of_lt (by omega)]
    have hq : U / 2 ^ k = 0 ∨ U / 2 ^ k = 1 := by
      rcases Nat.lt_or_ge U (2 ^ k) with h | h
      · exact .inl (Nat.div_eq_of_lt h)
      · exact .inr (Nat.div_eq_of_lt_le (by omega) (by omega))
    have hq2 : (U / 2 ^ k = 0 → U < 2 ^ k) ∧ (U / 2 ^ k = 1 → 2 ^ k ≤ U) := by
      refine ⟨fun e => ?_, fun e => ?_⟩
      · rcases Nat.lt_or_ge U (2 ^ k) with h | h
        · exact h
        · have := Nat.div_pos h hpk; omega
      · rcases Nat.lt_or_ge U (2 ^ k) with h | h
        · have := Nat.div_eq_of_lt h; omega
        · exact h
    generalize U / 2 ^ k = Q at *
    generalize 2 ^ k = P at *
    have ht : ((P * 2 : Nat) : Int) * t = 0 ∨ ((P * 2 : Nat) : Int) * t ≤ -((P * 2 : Nat) : Int) ∨ ((P * 2 : Nat) : Int) ≤ ((P * 2 : Nat) : Int) * t := by
      rcases Int.lt_trichotomy t 0 with h | h | h
      · right; left
        have := Int.mul_le_mul_of_nonneg_left (show t ≤ -1 by omega) (show (0 : Int) ≤ ((P * 2 : Nat) : Int) by omega)
        omega
      · left; rw [h]; simp
      · right; right
        have := Int.mul_le_mul_of_nonneg_left (show 1 ≤ t by omega) (show (0 : Int) ≤ ((P * 2 : Nat) : Int) by omega)
        omega
    have ht1 : t = 0 ∨ t = -1 ∨ t ≤ -2 ∨ 1 ≤ t := by omega
    rcases hq with rfl | rfl
    · have := hq2.1 rfl
      simp
      rcases ht with h | h | h <;> constructor <;> intro g <;> omega
    · have := hq2.2 rfl
      simp
      have ht3 : t = -1 → ((P * 2 : Nat) : Int) * t = -((P * 2 : Nat) : Int) := by intro e; rw [e]; simp
      have ht4 : t ≤ -2 → ((P * 2 : Nat) : Int) * t ≤ -2 * ((P * 2 : Nat) : Int) := by
        intro e
        have := Int.mul_le_mul_of_nonneg_left e (show (0 : Int) ≤ ((P * 2 : Nat) : Int) by omega)
        omega
      have ht0 : t = 0 → ((P * 2 : Nat) : Int) * t = 0 := by intro e; rw [e]; simp
      have ht5 : 1 ≤ t → ((P * 2 : Nat) : Int) ≤ ((P * 2 : Nat) : Int) * t := by
        intro e
        have := Int.mul_le_mul_of_nonneg_left e (show (0 : Int) ≤ ((P * 2 : Nat) : Int) by omega)
        omega
      rcases ht1 with h | h | h | h
      · have := ht0 h; constructor <;> intro g <;> omega
      · have := ht3 h; constructor <;> intro g <;> omega
      · have := ht4 h; constructor <;> intro g <;> omega
      · have := ht5 h; constructor <;> intro g <;> omega
end Go.Proofs.YteklfkpeaadinaaGreatDoor
namespace Go.Proofs.YteklfkpeaadinaaGreatDoor
open Go.RowKit

/-- the row holds these bits then, where it lay or anew; nothing else has turned -/
def RowTo (w : World) (base : Nat) (v v' : Value) (l' : List Nat) (w' : World) : Prop := Bitrow w' base v' l' ∧ Only (RF v) w w' ∧ Moves w.heap.size v v'
theorem RowTo.same {w : World} {base : Nat} {v : Value} {l : List Nat} (h : Bitrow w base v l) : RowTo w base v v l w := ⟨h, Only.refl _ _, Moves.refl _ _⟩
/-- one append to it more -/
theorem RowTo.more {w w1 w2 : World} {base g c : Nat} {v v1 : Value} {l m : List Nat} {o : Obj} (h : RowTo w base v v1 l w1) (hown : w2.ownsRow base 3 1 (.slice (some ⟨g, 0, none⟩) (l.length + m.length) c) (l.length + m.length) (bv l ++ bv m)) (hg : (w1.alloc o).grownBy w2 v1.ownBlock)
    (hm : v1.ownBlock = some g ∨ g = w1.heap.size + 1) : RowTo w base v (.slice (some ⟨g, 0, none⟩) (l.length + m.length) c) (l ++ m) w2 := by
  obtain ⟨h1, h2, h3⟩ := h
  have hs := h2.size
  refine ⟨by unfold Bitrow; rw [List.length_append, bv_append]; exact hown, (h2.alloc o).grown hg (fun k e => ?_), fun k hk => ?_⟩
  · rcases h3 k e with h4 | h4
    · exact .inl h4
    · exact .inr h4
  · simp [Value.ownBlock] at hk
    subst hk
    rcases hm with h5 | h5
    · exact h3 g h5
    · exact .inr (by omega)
/-- .. from a row that lies there -/
theorem RowTo.join {w w1 w2 : World} {base g c : Nat} {v v1 : Value} {l m : List Nat} (h : RowTo w base v v1 l w1) (hown : w2.ownsRow base 3 1 (.slice (some ⟨g, 0, none⟩) (l.length + m.length) c) (l.length + m.length) (bv l ++ bv m)) (hg : w1.grownBy w2 v1.ownBlock)
    (hm : v1.ownBlock = some g ∨ g = w1.heap.size) : RowTo w base v (.slice (some ⟨g, 0, none⟩) (l.length + m.length) c) (l ++ m) w2 := by
  obtain ⟨h1, h2, h3⟩ := h
  have hs := h2.size
  refine ⟨by unfold Bitrow; rw [List.length_append, bv_append]; exact hown, h2.grown hg (fun k e => h3 k e), fun k hk => ?_⟩
  simp [Value.ownBlock] at hk
  subst hk
  rcases hm with h5 | h5
  · exact h3 g h5
  · exact .inr (by omega)
def UnwRel (w : World) (base m : Nat) (v : Value) (l : List Nat) (s0 s6 : Value) (wr : World) : Prop := ∃ i : Nat, i ≤ m ∧ s6 = iv i ∧ RowTo w base v s0 (l ++ List.replicate i 0) wr
set_option maxRecDepth 100000 in
set_option maxHeartbeats 1000000 in
theorem unaryRefW_any {w : World} {base : Nat} {v : Value} {l : List Nat} (h : Bitrow w base v l) (hb : base ≤ w.heap.size) (hl : l.length ≤ 100000000) (x : Int) :
    Calls Tryz.prog 49 #[v, .int .i64 x] w fun e w' => ∃ v', e = .returned (.tuple #[v', .int .i64 (unE x)]) ∧ RowTo w base v v' (unL l x) w' := by
  obtain ⟨i0, hi, hz0, hz1, hz2⟩ := info_parts Tryz.info_int
  obtain ⟨A0, c0, hv0⟩ := owns_slice h
  subst hv0
  by_cases h0 : x < 0
  · have e1 : unE x = 10 := by unfold unE; rw [if_pos (.inl h0)]
    have e2 : unL l x = l := by unfold unL; rw [e1]; rfl
    rw [e1, e2]
    clear e1 e2
    have hd : decide (x < 0) = true := by simpa using h0
    have H := Lib.hid (RowTo.same h)
    clear h
    go_enter Tryz.func49, Tryz.ntmps49
    go_wp2
    go_ret2
    exact ⟨_, rfl, H.out⟩
  · have hd : decide (x < 0) = false := by simpa using h0
    by_cases h1 : 65536 < x
    · have e1 : unE x = 10 := by unfold unE; rw [if_pos (.inr h1)]
      have e2 : unL l x = l := by unfold unL; rw [e1]; rfl
      rw [e1, e2]
      clear e1 e2
      have hd2 : decide (65536 < x) = true := by simpa using h1
      have H := Lib.hid (RowTo.same h)
      clear h
      go_enter Tryz.func49, Tryz.ntmps49
      go_wp2
      go_ret2
      exact ⟨_, rfl, H.out⟩
    · obtain ⟨m, rfl⟩ := Int.eq_ofNat_of_zero_le (show 0 ≤ x by omega)
      have hm : m ≤ 65536 := by omega
      have e1 : unE (m : Int) = 0 := by unfold unE; rw [if_neg (by omega)]
      have e2 : unL l (m : Int) = (l ++ List.replicate m 0) ++ [1] := by unfold unL; rw [e1, if_pos rfl, Int.toNat_natCast]
      rw [e1, e2]
      clear e1 e2
      have hd2 : decide ((65536 : Int) < (m : Int)) = false := by simp; omega
      have H := Lib.hid (RowTo.same h)
      clear h
      go_enter Tryz.func49, Tryz.ntmps49
      go_wp2
      go_loopw [0, 6] (fun s0 s6 wr => UnwRel w base m (.slice A0 l.length c0) l s0 s6 wr) (fun _ s6 _ => m - (intOf s6).toNat)
      case atStart => exact ⟨0, Nat.zero_le _, rfl, by simpa using H.out⟩
      case round =>
        obtain ⟨i, hi1, rfl, hrow⟩ := hrel
        generalize hLe : l ++ List.replicate i 0 = L at hrow
        have hLl : L.length ≤ 100065536 := by rw [← hLe, List.length_append, List.length_replicate]; omega
        have HLe := Lib.hid hLe
        clear hLe
        obtain ⟨A4, c4, hv4⟩ := owns_slice hrow.1
        subst hv4
        have hsz := hrow.2.1.size
        have Hrow := Lib.hid hrow
        clear hrow
        by_cases hlt : i < m
        · have hlt2 : (i : Int) < (m : Int) := by omega
          go_wp2_with (at_builtin; refine wpList_append_lies _ rfl (.tmp 19) (.tmp 20) 22 rfl base 3 i0 (.int .i64 0) 1 8 Tryz.underlying22 hi hz0 hz1 hz2 rfl (by decide) (.slice A4 L.length c4) L.length (bv L) rfl ?hown ⟨wr.heap.size, 0, none⟩ 1 1 [iv 0] rfl ?hl ?hnews ?h1 (by decide) ?h63 ?hby ?hbase (wr.heap.size + 1) ?hH ?rest)
          case hown => exact World.ownsRow.alloc Hrow.out.1 _
          case hl => rfl
          case hnews =>
            intro j u hu
            rw [Addr.add_lit]
            match j, hu with
            | 0, hu => simp at hu; subst hu; simp
          case h1 => intro u hu; simp at hu; subst hu; rfl
          case h63 => unfold maxLen; omega
          case hby => omega
          case hbase => simp; omega
          case hH => simp
          case rest =>
            intro g3 cap3 w3 hown3 hgr hat hlt3
            have Hm := Lib.hid (RowTo.more (m := [0]) Hrow.out hown3 hgr hat)
            clear hown3 hgr hat
            go_wp2
            go_roundw
            case rel =>
              refine ⟨i + 1, by omega, by go_num, ?_⟩
              have eL : l ++ List.replicate (i + 1) 0 = L ++ [0] := by rw [← HLe.out, List.append_assoc, show [0] = List.replicate 1 0 from rfl, List.replicate_append_replicate]
              rw [eL]
              exact Hm.out
            case measure => simp [intOf]; omega
        · obtain rfl : i = m := by omega
          go_wp2_with (at_builtin; refine wpList_append_lies _ rfl (.tmp 22) (.tmp 23) 22 rfl base 3 i0 (.int .i64 0) 1 8 Tryz.underlying22 hi hz0 hz1 hz2 rfl (by decide) (.slice A4 L.length c4) L.length (bv L) rfl ?hown ⟨wr.heap.size, 0, none⟩ 1 1 [iv 1] rfl ?hl ?hnews ?h1 (by decide) ?h63 ?hby ?hbase (wr.heap.size + 1) ?hH ?rest)
          case hown => exact World.ownsRow.alloc Hrow.out.1 _
          case hl => rfl
          case hnews =>
            intro j u hu
            rw [Addr.add_lit]
            match j, hu with
            | 0, hu => simp at hu; subst hu; simp
          case h1 => intro u hu; simp at hu; subst hu; rfl
          case h63 => unfold maxLen; omega
          case hby => omega
          case hbase => simp; omega
          case hH => simp
          case rest =>
            intro g3 cap3 w3 hown3 hgr hat hlt3
            have Hm := Lib.hid (RowTo.more (m := [1]) Hrow.out hown3 hgr hat)
            clear hown3 hgr hat
            go_wp2
            go_ret2
            refine ⟨_, rfl, ?_⟩
            rw [HLe.out]
            exact Hm.out
def refE (s : Bool) (n x : Int) : Int := if s = true then sgnE n x else putE n x
def refL (s : Bool) (l : List Nat) (n x : Int) : List Nat := if s = true then sgnL l n x else putL l n x
theorem ref_ok (s : Bool) (l : List Nat) (n : Nat) (x : Int) (hn : n ≤ 48) (h : refNum s (bitsN n (x % 2 ^ n).toNat) = x) : refE s (n : Int) x = 0 ∧ refL s l (n : Int) x = l ++ bitsN n (x % 2 ^ n).toNat := by
  unfold refE refL
  cases s
  · have h1 := (refNum_put n x).1 h
    have e : putE (n : Int) x = 0 := by unfold putE; rw [if_neg (by omega), Int.toNat_natCast, if_neg (by omega)]
    refine ⟨e, ?_⟩
    show putL l (n : Int) x = _
    unfold putL
    rw [if_pos e, Int.toNat_natCast, Int.emod_eq_of_lt h1.1 h1.2]
  · have h1 := (refNum_sgn n x).1 h
    have e : sgnE (n : Int) x = 0 := by unfold sgnE; rw [if_neg (by omega), Int.toNat_natCast, if_pos h1]
    refine ⟨e, ?_⟩
    show sgnL l (n : Int) x = _
    unfold sgnL
    rw [if_pos e, Int.toNat_natCast]
theorem ref_no (s : Bool) (l : List Nat) (n : Nat) (x : Int) (hn : n ≤ 48) (h : ¬ refNum s (bitsN n (x % 2 ^ n).toNat) = x) : refE s (n : Int) x = 10 ∧ refL s l (n : Int) x = l := by
  unfold refE refL
  cases s
  · have h1 := fun hh => h ((refNum_put n x).2 hh)
    have e : putE (n : Int) x = 10 := by unfold putE; rw [if_neg (by omega), Int.toNat_natCast, if_pos (by
      by_cases a : x < 0
      · exact .inl a
      · rcases Int.lt_or_le x (2 ^ n) with b | b
        · exact absurd ⟨by omega, b⟩ h1
        · exact .inr b)]
    exact ⟨e, by show putL l (n : Int) x = _; unfold putL; rw [e]; rfl⟩
  · have h1 := fun hh => h ((refNum_sgn n x).2 hh)
    have e : sgnE (n : Int) x = 10 := by unfold sgnE; rw [if_neg (by omega), Int.toNat_natCast, if_neg h1]
    exact ⟨e, by show sgnL l (n : Int) x = _; unfold sgnL; rw [e]; rfl⟩
theorem ref_arg (s : Bool) (l : List Nat) (n x : Int) (hn : n < 0 ∨ 48 < n) : refE s n x = 1 ∧ refL s l n x = l := by
  unfold refE refL
  cases s
  · have e : putE n x = 1 := by unfold putE; rw [if_pos hn]
    exact ⟨e, by show putL l n x = _; unfold putL; rw [e]; rfl⟩
  · have e : sgnE n x = 1 := by unfold sgnE; rw [if_pos hn]
    exact ⟨e, by show sgnL l n x = _; unfold sgnL; rw [e]; rfl⟩
theorem BitsIn.of_row {w : World} {base : Nat} {v : Value} {l : List Nat} (h : Bitrow w base v l) : BitsIn w v l := by
  rcases h.2 with ⟨rfl, hn⟩ | ⟨g, cap, cur, rfl, _, hg, _⟩
  · exact .inl ⟨none, 0, rfl, List.eq_nil_of_length_eq_zero hn⟩
  · refine .inr ⟨g, 0, cap, rfl, fun j hj => ?_⟩
    have h1 : w.ownsRow base 3 1 (.slice (some ⟨g, 0, none⟩) l.length cap) l.length (bv l) := h
    rw [Nat.zero_add, h1.cellAt j (by omega)]
    simp [bv, List.getElem?_eq_getElem hj]
def PutRel (w : World) (n U : Nat) (s10 s11 : Value) (wr : World) : Prop := ∃ j : Nat, j ≤ n ∧ s11 = iv ((n : Int) - 1 - (j : Int)) ∧ Bitrow wr w.heap.size s10 ((bitsN n U).take j) ∧ Only Nix w wr ∧ (j = 0 → s10 = .slice none 0 0)
set_option maxRecDepth 100000 in
set_option maxHeartbeats 1000000 in
theorem putRefW_any {w : World} {base : Nat} {v : Value} {l : List Nat} (s : Bool) (h : Bitrow w base v l) (hb : base ≤ w.heap.size) (hl : l.length ≤ 100000000) (n x : Int) :
    Calls Tryz.prog 48 #[v, .int .i64 n, .int .i64 x, .bool s] w fun e w' => ∃ v', e = .returned (.tuple #[v', .int .i64 (refE s n x)]) ∧ RowTo w base v v' (refL s l n x) w' := by
  obtain ⟨i0, hi, hz0, hz1, hz2⟩ := info_parts Tryz.info_int
  obtain ⟨A0, c0, hv0⟩ := owns_slice h
  subst hv0
  have H := Lib.hid (RowTo.same h)
  by_cases hn : n < 0 ∨ 48 < n
  · obtain ⟨e1, e2⟩ := ref_arg s l n x hn
    rw [e1, e2]
    clear e1 e2 h
    by_cases h0 : n < 0
    · have hd : decide (n < 0) = true := by simpa using h0
      go_enter Tryz.func48, Tryz.ntmps48
      go_wp2
      go_ret2
      exact ⟨_, rfl, H.out⟩
    · have hd : decide (n < 0) = false := by simpa using h0
      have hd2 : decide (48 < n) = true := by simp; omega
      go_enter Tryz.func48, Tryz.ntmps48
      go_wp2
      go_ret2
      exact ⟨_, rfl, H.out⟩
  · have hd : decide (n < 0) = false := by simp; omega
    have hd2 : decide (48 < n) = false := by simp; omega
    obtain ⟨m, rfl⟩ := Int.eq_ofNat_of_zero_le (show 0 ≤ n by omega)
    have hm : m ≤ 48 := by omega
    have HO := Lib.hid (ref_ok s l m x hm)
    have HN := Lib.hid (ref_no s l m x hm)
    have hU : Hid (∀ k, k < m → bits .and .i64 (x / 2 ^ k) 1 = (((x % 2 ^ m).toNat / 2 ^ k % 2 : Nat) : Int)) := fun k hk => bits_int x k m hk
    generalize (x % 2 ^ m).toNat = U at *
    have hbl := bitsN_len m U
    have Hbl := Lib.hid hbl
    have Hh := Lib.hid h
    clear hn h hbl
    go_enter Tryz.func48, Tryz.ntmps48
    go_wp2
    go_loopw [10, 11] (fun s10 s11 wr => PutRel w m U s10 s11 wr) (fun _ s11 _ => (intOf s11 + 1).toNat)
    case atStart => exact ⟨0, Nat.zero_le _, by simp, World.ownsRow_nil _ _ _ _, Only.refl _ _, fun _ => rfl⟩
    case round =>
      obtain ⟨j, hj, rfl, hrow, ho, hjn⟩ := hrel
      have hsz := ho.size
      obtain ⟨A4, c4, hv4⟩ := owns_slice hrow
      subst hv4
      have Hrow := Lib.hid hrow
      have Hjn := Lib.hid hjn
      clear hrow hjn
      by_cases hlt : j < m
      · obtain ⟨k, hk⟩ : ∃ k : Nat, (m : Int) - 1 - (j : Int) = (k : Int) ∧ k + j + 1 = m := ⟨m - 1 - j, by omega, by omega⟩
        rw [hk.1]
        have hge : (0 : Int) ≤ (k : Int) := by omega
        have hk48 : k ≤ 48 := by omega
        have Hk := Lib.hid hk
        clear hk
        generalize hTe : (bitsN m U).take j = T at *
        have hTl : T.length ≤ 48 := by rw [← hTe, List.length_take, Hbl.out]; omega
        have HTe := Lib.hid hTe
        clear hTe
        go_wp2_with (at_builtin; refine wpList_append_lies _ rfl (.tmp 25) (.tmp 30) 22 rfl w.heap.size 3 i0 (.int .i64 0) 1 8 Tryz.underlying22 hi hz0 hz1 hz2 rfl (by decide) (.slice A4 T.length c4) T.length (bv T) rfl ?hown ⟨wr.heap.size, 0, none⟩ 1 1 [.int .i64 (bits .and .i64 (x / 2 ^ k) 1)] rfl ?hl ?hnews ?h1 (by decide) ?h63 ?hby ?hbase (wr.heap.size + 1) ?hH ?rest)
        case hown => exact World.ownsRow.alloc Hrow.out _
        case hl => rfl
        case hnews =>
          intro j u hu
          rw [Addr.add_lit]
          match j, hu with
          | 0, hu => simp at hu; subst hu; simp
        case h1 => intro u hu; simp at hu; subst hu; rfl
        case h63 => unfold maxLen; omega
        case hby => omega
        case hbase => simp; omega
        case hH => simp
        case rest =>
          intro g3 cap3 w3 hown3 hgr hat hlt3
          have ho3 : Only Nix w w3 := (ho.alloc _).grown hgr (fun q e => .inr (World.ownsRow.lt Hrow.out q e).1)
          have Hown3 := Lib.hid hown3
          clear hown3 hgr hat
          go_wp2
          go_roundw
          case rel =>
            have hk := Hk.out
            refine ⟨j + 1, by omega, by go_num, ?_, ho3, fun e => by omega⟩
            have h9 := Hown3.out
            rw [hU.out k (by omega), show k = m - 1 - j from by omega] at h9
            unfold Bitrow
            rw [bitsN_snoc m U j hlt, HTe.out, bv_append, List.length_append]
            exact h9
          case measure => have := Hk.out; first | (simp [intOf]; done) | (simp [intOf]; omega)
      · obtain rfl : j = m := by omega
        have hneg : ¬ (0 : Int) ≤ (j : Int) - 1 - (j : Int) := by omega
        have hneg2 : decide ((0 : Int) ≤ (j : Int) - 1 - (j : Int)) = false := by simpa using hneg
        have hrow := Hrow.out
        rw [List.take_of_length_le (by rw [Hbl.out]; exact Nat.le_refl _)] at hrow
        have hnum := numberRef_any s (BitsIn.of_row hrow) (bitsN_le j U) (by rw [Hbl.out]; exact hm)
        rw [List.take_of_length_le (by rw [Hbl.out]; exact Nat.le_refl _)] at Hrow ⊢
        generalize bitsN j U = T at *
        have Hnum := Lib.hid hnum
        clear hnum hrow
        go_wp2_with fail
        refine (Hnum.out).mono ?_
        rintro e w5 ⟨rfl, rfl⟩
        by_cases hx : refNum s T = x
        · obtain ⟨e1, e2⟩ := HO.out hx
          have He := Lib.hid (And.intro e1 e2)
          have hxb : (refNum s T != x) = false := by rw [bne_eq_false_iff_eq]; exact hx
          clear e1 e2 HO HN hx
          have hR : RowTo w base (.slice A0 l.length c0) (.slice A0 l.length c0) l wr := ⟨owns_only Hh.out ho (fun _ _ e => e), ho.nix, Moves.refl _ _⟩
          have HR := Lib.hid hR
          clear hR
          rcases Nat.eq_zero_or_pos j with rfl | hjp
          · have hT0 : T = [] := List.eq_nil_of_length_eq_zero (by rw [Hbl.out])
            subst hT0
            have hvn := Hjn.out rfl
            injection hvn with hvn1 _ hvn2
            subst hvn1 hvn2
            go_wp2_with (at_builtin; refine wpList_append_own_none rfl (.tmp 38) (.tmp 39) 22 rfl base 3 i0 1 Tryz.underlying22 hi (.slice A0 l.length c0) l.length (bv l) rfl ?hownN rfl ?restN)
            case hownN => exact HR.out.1
            go_ret2
            rw [He.out.1, He.out.2, List.append_nil]
            exact ⟨_, rfl, HR.out⟩
          · obtain ⟨g4, rfl⟩ : ∃ g4, A4 = some ⟨g4, 0, none⟩ := by
              rcases Hrow.out.2 with ⟨_, hn0⟩ | ⟨g4, cap, cur, hv9, _⟩
              · have := Hbl.out; omega
              · injection hv9 with h8 _ _; exact ⟨g4, h8⟩
            have hTl := Hbl.out
            have hTl1 : T.length ≤ 48 := by omega
            have hTl2 : 0 < T.length := by omega
            clear hTl
            go_wp2_with (at_builtin; refine wpList_append_lies _ rfl (.tmp 38) (.tmp 39) 22 rfl base 3 i0 (.int .i64 0) 1 8 Tryz.underlying22 hi hz0 hz1 hz2 rfl (by decide) (.slice A0 l.length c0) l.length (bv l) rfl ?hownJ ⟨g4, 0, none⟩ T.length c4 (bv T) rfl ?hlJ ?hnewsJ ?h1J hTl2 ?h63J ?hbyJ ?hbaseJ wr.heap.size ?hHJ ?restJ)
            case hownJ => exact HR.out.1
            case hlJ => rw [bv_len]; omega
            case hnewsJ => exact World.ownsRow.cells Hrow.out (g := g4) rfl
            case h1J => intro u hu; obtain ⟨b, _, rfl⟩ := List.mem_map.1 hu; rfl
            case h63J => unfold maxLen; omega
            case hbyJ => omega
            case hbaseJ => omega
            case hHJ => rfl
            case restJ =>
              intro g3 cap3 w3 hown3 hgr hat hlt3
              have Hm := Lib.hid (RowTo.join (m := T) HR.out hown3 hgr hat)
              clear hown3 hgr hat
              go_wp2
              go_ret2
              rw [He.out.1, He.out.2]
              exact ⟨_, rfl, Hm.out⟩
        · obtain ⟨e1, e2⟩ := HN.out hx
          have He := Lib.hid (And.intro e1 e2)
          have hxb : (refNum s T != x) = true := by rw [bne_iff_ne]; exact hx
          clear e1 e2 HO HN hx
          go_wp2
          go_ret2
          rw [He.out.1, He.out.2]
          exact ⟨_, rfl, owns_only Hh.out ho (fun _ _ e => e), ho.nix, Moves.refl _ _⟩
end Go.Proofs.YteklfkpeaadinaaGreatDoor
namespace Go.Proofs.YteklfkpeaadinaaGreatDoor
open Go.RowKit

end Go.Proofs.YteklfkpeaadinaaGreatDoor
namespace Go.Proofs.YteklfkpeaadinaaGreatDoor
open Go.RowKit

set_option maxHeartbeats 1000000 in
theorem headRef_any (w : World) (m o b s : Int) :
    Calls Tryz.prog 30 #[iv m, iv o, iv b, iv s] w fun e w' => e = .returned (iv (ckH m o b s)) ∧ w = w' := by
  by_cases hB : b < 1 ∨ 65535 < b ∨ s < 0 ∨ 32 < s
  · have e1 : ckH m o b s = 1 := by unfold ckH ckB; rw [if_pos hB]; rfl
    rw [e1]
    clear e1
    rcases Int.lt_or_le b 1 with h1 | h1
    · clear hB
      go_enter Tryz.func30, Tryz.ntmps30
      go_wp2
      go_ret
      exact ⟨rfl, rfl⟩
    · have g1 : decide (b < 1) = false := by simp; omega
      rcases Int.lt_or_le 65535 b with h2 | h2
      · clear hB
        go_enter Tryz.func30, Tryz.ntmps30
        go_wp2
        go_ret
        exact ⟨rfl, rfl⟩
      · have g2 : decide (65535 < b) = false := by simp; omega
        rcases Int.lt_or_le s 0 with h3 | h3
        · clear hB
          go_enter Tryz.func30, Tryz.ntmps30
          go_wp2
          go_ret
          exact ⟨rfl, rfl⟩
        · have g3 : decide (s < 0) = false := by simp; omega
          have h4 : 32 < s := by omega
          clear hB
          go_enter Tryz.func30, Tryz.ntmps30
          go_wp2
          go_ret
          exact ⟨rfl, rfl⟩
  · have e1 : ckB b s = 0 := by unfold ckB; rw [if_neg hB]
    have e2 : ckH m o b s = if m < 0 ∨ 2 ≤ m ∨ o < 0 ∨ 15 < o then 10 else ckP o.toNat b.toNat s.toNat := by unfold ckH; rw [e1]; simp
    rw [e2]
    clear e1 e2
    have g1 : decide (b < 1) = false := by simp; omega
    have g2 : decide (65535 < b) = false := by simp; omega
    have g3 : decide (s < 0) = false := by simp; omega
    have g4 : decide (32 < s) = false := by simp; omega
    obtain ⟨b, rfl⟩ := Int.eq_ofNat_of_zero_le (show 0 ≤ b by omega)
    obtain ⟨s, rfl⟩ := Int.eq_ofNat_of_zero_le (show 0 ≤ s by omega)
    have hb : b ≤ 65535 := by omega
    have hs : s ≤ 32 := by omega
    rw [Int.toNat_natCast, Int.toNat_natCast]
    by_cases hM : m < 0 ∨ 2 ≤ m ∨ o < 0 ∨ 15 < o
    · rw [if_pos hM]
      rcases Int.lt_or_le m 0 with h1 | h1
      · clear hM
        go_enter Tryz.func30, Tryz.ntmps30
        go_wp2
        go_ret
        exact ⟨rfl, rfl⟩
      · have k1 : decide (m < 0) = false := by simp; omega
        rcases Int.lt_or_le 1 m with h2 | h2
        · clear hM
          go_enter Tryz.func30, Tryz.ntmps30
          go_wp2
          go_ret
          exact ⟨rfl, rfl⟩
        · have k2 : decide (1 < m) = false := by simp; omega
          rcases Int.lt_or_le o 0 with h3 | h3
          · clear hM
            go_enter Tryz.func30, Tryz.ntmps30
            go_wp2
            go_ret
            exact ⟨rfl, rfl⟩
          · have k3 : decide (o < 0) = false := by simp; omega
            have h4 : 15 < o := by omega
            clear hM
            go_enter Tryz.func30, Tryz.ntmps30
            go_wp2
            go_ret
            exact ⟨rfl, rfl⟩
    · rw [if_neg hM]
      have k1 : decide (m < 0) = false := by simp; omega
      have k2 : decide (1 < m) = false := by simp; omega
      have k3 : decide (o < 0) = false := by simp; omega
      have k4 : decide (15 < o) = false := by simp; omega
      obtain ⟨o, rfl⟩ := Int.eq_ofNat_of_zero_le (show 0 ≤ o by omega)
      have ho : o ≤ 15 := by omega
      rw [Int.toNat_natCast]
      clear hM hB
      have hc : ckP o b s = if b % 2 ^ o ≠ 0 ∨ b / 2 ^ o ≤ s then 12 else 0 := rfl
      have hdl := Nat.div_le_self b (2 ^ o)
      generalize ckP o b s = C at *
      obtain ⟨P, hP⟩ : ∃ P : Nat, Hid (2 ^ o = P) := ⟨_, Lib.hid rfl⟩
      have hP2 : P ≤ 32768 := by rw [← hP.out]; exact Nat.pow_le_pow_right (by decide) ho
      have hP0 : 0 < P := by rw [← hP.out]; exact Nat.two_pow_pos o
      have hpw : (2 : Int) ^ o = (P : Int) := by rw [pow_cast, hP.out]
      have hPz : ¬ (P : Int) = 0 := by omega
      have hPz2 : ¬ P = 0 := by omega
      rw [hP.out] at hc hdl
      have hd : (b : Int) / (P : Int) = ((b / P : Nat) : Int) := by rw [← Int.natCast_ediv]
      have hm : Int.tmod (b : Int) (P : Int) = ((b % P : Nat) : Int) := by rw [Int.tmod_eq_emod_of_nonneg (by omega), Int.natCast_emod]
      have hm2 : (b : Int) % (P : Int) = ((b % P : Nat) : Int) := by rw [Int.natCast_emod]
      generalize b % P = R at *
      generalize b / P = D at *
      by_cases h1 : R = 0
      · subst h1
        by_cases h2 : D ≤ s
        · obtain rfl : C = 12 := by rw [hc, if_pos (.inr h2)]
          clear hc
          go_enter Tryz.func30, Tryz.ntmps30
          go_wp2
          go_ret
          exact ⟨rfl, rfl⟩
        · obtain rfl : C = 0 := by rw [hc, if_neg (by omega)]
          clear hc
          go_enter Tryz.func30, Tryz.ntmps30
          go_wp2
          go_ret
          exact ⟨rfl, rfl⟩
      · obtain rfl : C = 12 := by rw [hc, if_pos (.inl h1)]
        clear hc
        have h3 : ((R : Int) != 0) = true := by simp; omega
        go_enter Tryz.func30, Tryz.ntmps30
        go_wp2
        go_ret
        exact ⟨rfl, rfl⟩
theorem partRef_any (w : World) (m : Int) (o B s i : Nat) (v v' : Value) (P S : Nat) (ho : o ≤ 15) (hP : 2 ^ o = P) (hS : B / P = S) (hS0 : 0 < S) (hB : B ≤ 65535) (hs : s ≤ 32) (hi : i ≤ 65535) :
    Calls Tryz.prog 62 #[planV m o v v', iv B, iv s, iv i] w fun e w' => e = .returned (iv (((i + s) / S : Nat) : Int)) ∧ Only Nix w w' := by
  have hP2 : P ≤ 32768 := by rw [← hP]; exact Nat.pow_le_pow_right (by decide) ho
  have hP0 : 0 < P := by rw [← hP]; exact Nat.two_pow_pos o
  have hpw : (2 : Int) ^ o = (P : Int) := by rw [pow_cast, hP]
  have hPz : ¬ (P : Int) = 0 := by omega
  have hPz2 : ¬ P = 0 := by omega
  have hd : (B : Int) / (P : Int) = (S : Int) := by rw [← Int.natCast_ediv, hS]
  have hSB : S ≤ B := by rw [← hS]; exact Nat.div_le_self _ _
  have hSz : ¬ (S : Int) = 0 := by omega
  have hSz2 : ¬ S = 0 := by omega
  have hd2 : ((i : Int) + (s : Int)) / (S : Int) = (((i + s) / S : Nat) : Int) := by rw [Int.natCast_ediv, Int.natCast_add]
  have hdl := Nat.div_le_self (i + s) S
  clear hP hS
  generalize (i + s) / S = D at *
  go_enter Tryz.func62, Tryz.ntmps62
  go_wp2
  go_ret
  exact ⟨by show Ending.returned (.int .i64 (((i : Int) + (s : Int)) / (S : Int))) = _; rw [hd2], (Only.refl Nix w).alloc _⟩
end Go.Proofs.YteklfkpeaadinaaGreatDoor
namespace Go.Proofs.YteklfkpeaadinaaGreatDoor
open Go.RowKit

/-- may a residual be written by a parameter -/
def okR (p wd x : Int) : Prop := isR x ∧ if p = -1 then fd x < 2 ^ wd.toNat else fd x / 2 ^ p.toNat ≤ 65536
theorem part_of (S s k i : Nat) (hS : s < S) (h1 : frm S s k ≤ i) (h2 : i < frm S s (k + 1)) : (i + s) / S = k := by
  unfold frm at *
  rw [Nat.add_mul] at h2
  refine Nat.div_eq_of_lt_le (by omega) ?_
  rw [Nat.add_mul]
  omega
theorem part_next (S s k : Nat) (hS : s < S) : (frm S s (k + 1) + s) / S = k + 1 := by
  have h : frm S s (k + 1) + s = (k + 1) * S := by
    unfold frm
    rw [Nat.add_mul]
    omega
  rw [h]
  exact Nat.mul_div_cancel _ (by omega)
theorem may_ok (p wd : Int) (xs : List Int) (h : 0 < xs.length) (hR : ∀ x ∈ xs, isR x) : mayP p wd (xs.map fd) = true ↔ ∀ x ∈ xs, okR p wd x := by
  obtain ⟨y, hy, hm⟩ := List.mem_map.1 (mxN_mem (ns := xs.map fd) (by simpa using h))
  have hle : ∀ x ∈ xs, fd x ≤ mxN (xs.map fd) := fun x hx => mxN_le _ (List.mem_map_of_mem hx)
  unfold mayP okR
  by_cases hp : p = -1
  · simp only [if_pos hp, decide_eq_true_eq]
    exact ⟨fun g x hx => ⟨hR x hx, Nat.lt_of_le_of_lt (hle x hx) g⟩, fun g => by rw [← hm]; exact (g y hy).2⟩
  · simp only [if_neg hp, decide_eq_true_eq]
    exact ⟨fun g x hx => ⟨hR x hx, Nat.le_trans (Nat.div_le_div_right (hle x hx)) g⟩, fun g => by rw [← hm]; exact (g y hy).2⟩
theorem pt_all {α : Type} (S s : Nat) (l : List α) (hS : s < S) (k : Nat) : (List.range k).flatMap (pt S s l) = l.take (frm S s k) := by
  induction k with
  | zero => simp [frm_zero]
  | succ k ih =>
    rw [List.range_succ, List.flatMap_append, List.flatMap_singleton, ih]
    unfold pt
    have h := (frm_step S s k hS).1
    generalize frm S s k = a at *
    generalize frm S s (k + 1) = b at *
    obtain ⟨d, rfl⟩ : ∃ d, b = a + d := ⟨b - a, by omega⟩
    rw [Nat.add_sub_cancel_left, List.take_add]
theorem pt_mem {α : Type} (S s P : Nat) (l : List α) (hS : s < S) (hn : P * S = l.length + s) {x : α} (hx : x ∈ l) : ∃ k, k < P ∧ x ∈ pt S s l k := by
  have h := pt_all S s l hS P
  have e : frm S s P = l.length := by unfold frm; omega
  rw [e, List.take_length] at h
  rw [← h] at hx
  obtain ⟨k, hk, hx⟩ := List.mem_flatMap.1 hx
  exact ⟨k, List.mem_range.1 hk, hx⟩
theorem pt_in {α : Type} (S s : Nat) (l : List α) (k : Nat) {x : α} (hx : x ∈ pt S s l k) : x ∈ l := List.mem_of_mem_drop (List.mem_of_mem_take hx)
theorem pt_map {α β : Type} (S s : Nat) (l : List α) (k : Nat) (f : α → β) : pt S s (l.map f) k = (pt S s l k).map f := by unfold pt; rw [List.map_take, List.map_drop]
/-- a block may be written just where each residual may -/
theorem ok_all (S s P : Nat) (ps bs l : List Int) (hS : s < S) (hn : P * S = l.length + s) :
    ((∀ x ∈ l, isR x) ∧ mayAll S s P ps bs (l.map fd)) ↔ ∀ k, k < P → ∀ x ∈ pt S s l k, okR (ps.getD k 0) (bs.getD k 0) x := by
  constructor
  · rintro ⟨hR, hm⟩ k hk x hx
    have h1 := hm k hk
    rw [pt_map] at h1
    exact (may_ok _ _ _ (List.length_pos_of_mem hx) (fun y hy => hR y (pt_in S s l k hy))).1 h1 x hx
  · intro h
    refine ⟨fun x hx => ?_, fun k hk => ?_⟩
    · obtain ⟨k, hk, hx⟩ := pt_mem S s P l hS hn hx
      exact (h k hk x hx).1
    · rw [pt_map]
      have hl := pt_len S s P l k hS hk hn
      have h2 := (frm_step S s k hS).1
      exact (may_ok _ _ _ (by omega) (fun y hy => (h k hk y hy).1)).2 (h k hk)
end Go.Proofs.YteklfkpeaadinaaGreatDoor
namespace Go.Proofs.YteklfkpeaadinaaGreatDoor
open Go.RowKit

theorem RowTo.nil (w : World) : Bitrow w w.heap.size (.slice none 0 0) [] := World.ownsRow_nil _ _ _ _
theorem RowTo.new {w w' : World} {v' : Value} {l : List Nat} (h : RowTo w w.heap.size (.slice none 0 0) v' l w') : Bitrow w' w.heap.size v' l ∧ Only Nix w w' :=
  ⟨h.1, h.2.1.mono fun i e => by unfold RF at e; simp [Value.ownBlock] at e⟩
theorem RowTo.then {w w1 w2 : World} {v1 v2 : Value} {l m : List Nat} (hr : Bitrow w1 w.heap.size v1 l) (ho : Only Nix w w1) (h : RowTo w1 w.heap.size v1 v2 m w2) : Bitrow w2 w.heap.size v2 m ∧ Only Nix w w2 :=
  ⟨h.1, ho.then h.2.1 fun i e => .inr (hr.lt i e).1⟩
def OneR (w : World) (p wd x : Int) (e : Ending) (w' : World) : Prop :=
  ∃ v r, e = .returned (.tuple #[v, .bool r]) ∧ Only Nix w w' ∧ (r = true → okR p wd x ∧ Bitrow w' w.heap.size v (resB p wd x)) ∧ (r = false → ¬ okR p wd x)
set_option maxHeartbeats 1000000 in
theorem oneRef_any (w : World) (x p wd : Int) (hp : (p = -1 ∧ 0 ≤ wd ∧ wd ≤ 31) ∨ (0 ≤ p ∧ p ≤ 30)) :
    Calls Tryz.prog 87 #[iv x, iv p, iv wd] w (OneR w p wd x) := by
  by_cases h1 : x ≤ -2147483648
  · have hno : Hid (¬ okR p wd x) := Lib.hid (fun h => by have := h.1; unfold isR at this; omega)
    have hd : decide (x ≤ (-2147483648 : Int)) = true := by simpa using h1
    go_enter Tryz.func87, Tryz.ntmps87
    go_wp2
    go_ret2
    exact ⟨_, false, rfl, Only.refl _ _, fun h => (by cases h), fun _ => hno.out⟩
  · have hd : decide (x ≤ (-2147483648 : Int)) = false := by simpa using h1
    by_cases h2 : 2147483648 ≤ x
    · have hno : Hid (¬ okR p wd x) := Lib.hid (fun h => by have := h.1; unfold isR at this; omega)
      have hd2 : decide ((2147483648 : Int) ≤ x) = true := by simpa using h2
      go_enter Tryz.func87, Tryz.ntmps87
      go_wp2
      go_ret2
      exact ⟨_, false, rfl, Only.refl _ _, fun h => (by cases h), fun _ => hno.out⟩
    · have hd2 : decide ((2147483648 : Int) ≤ x) = false := by simpa using h2
      have hR : isR x := ⟨by omega, by omega⟩
      rcases hp with ⟨rfl, w1, w2⟩ | ⟨p1, p2⟩
      · obtain ⟨wd, rfl⟩ := Int.eq_ofNat_of_zero_le w1
        have HP := Lib.hid (putRefW_any true (RowTo.nil w) (Nat.le_refl _) (by simp) (wd : Int) x)
        have HK : Hid ((okR (-1) (wd : Int) x ↔ isS wd x) ∧ resB (-1) (wd : Int) x = bitsN wd (x % 2 ^ wd).toNat) := Lib.hid (by
          constructor
          · unfold okR
            rw [if_pos rfl, Int.toNat_natCast, isS_fd]
            exact ⟨fun h => h.2, fun h => ⟨hR, h⟩⟩
          · unfold resB
            rw [if_pos rfl, Int.toNat_natCast])
        go_enter Tryz.func87, Tryz.ntmps87
        go_wp2_with fail
        refine (HP.out).mono ?_
        rintro e w2 ⟨v', rfl, hrow⟩
        by_cases hS : isS wd x
        · obtain ⟨e1, e2⟩ := ref_ok true [] wd x (by omega) ((refNum_sgn wd x).2 hS)
          rw [e1]
          rw [e2] at hrow
          have HR := Lib.hid (RowTo.new hrow)
          obtain ⟨A4, c4, hv4⟩ := owns_slice hrow.1
          subst hv4
          clear hrow
          go_wp2
          go_ret2
          exact ⟨_, true, rfl, HR.out.2, fun _ => ⟨HK.out.1.2 hS, by rw [HK.out.2]; simpa using HR.out.1⟩, fun h => by cases h⟩
        · obtain ⟨e1, e2⟩ := ref_no true [] wd x (by omega) (fun h => hS ((refNum_sgn wd x).1 h))
          rw [e1]
          rw [e2] at hrow
          have HR := Lib.hid (RowTo.new hrow)
          obtain ⟨A4, c4, hv4⟩ := owns_slice hrow.1
          subst hv4
          clear hrow
          go_wp2
          go_ret2
          exact ⟨_, false, rfl, HR.out.2, fun h => (by cases h), fun _ h => hS (HK.out.1.1 h)⟩
      · obtain ⟨p, rfl⟩ := Int.eq_ofNat_of_zero_le p1
        have hp30 : p ≤ 30 := by omega
        have hpd : decide ((p : Int) < 0) = false := by simp
        obtain ⟨P, hP⟩ : ∃ P : Nat, Hid (2 ^ p = P) := ⟨_, Lib.hid rfl⟩
        have hP2 : P ≤ 1073741824 := by rw [← hP.out]; exact Nat.pow_le_pow_right (by decide) hp30
        have hP0 : 0 < P := by rw [← hP.out]; exact Nat.two_pow_pos p
        have hpw : (2 : Int) ^ p = (P : Int) := by rw [pow_cast, hP.out]
        have hPz : ¬ (P : Int) = 0 := by omega
        have hPz2 : ¬ P = 0 := by omega
        have hfl := fd_lt hR
        have hfx : (x < 0 → -2 * x - 1 = (fd x : Int)) ∧ (¬ x < 0 → 2 * x = (fd x : Int)) := by unfold fd; constructor <;> intro h <;> simp [h] <;> omega
        have HK : Hid ((okR (p : Int) wd x ↔ fd x / P ≤ 65536) ∧ resB (p : Int) wd x = (List.replicate (fd x / P) 0 ++ [1]) ++ bitsN p (fd x % P)) := Lib.hid (by
          constructor
          · unfold okR
            rw [if_neg (by omega), Int.toNat_natCast, hP.out]
            exact ⟨fun h => h.2, fun h => ⟨hR, h⟩⟩
          · unfold resB
            rw [if_neg (by omega), Int.toNat_natCast, hP.out])
        generalize fd x = f at *
        have hd9 : (f : Int) / (P : Int) = ((f / P : Nat) : Int) := by rw [← Int.natCast_ediv]
        have hm9 : Int.tmod (f : Int) (P : Int) = ((f % P : Nat) : Int) := by rw [Int.tmod_eq_emod_of_nonneg (by omega), Int.natCast_emod]
        have hm8 : (f : Int) % (P : Int) = ((f % P : Nat) : Int) := by rw [Int.natCast_emod]
        have hml : f % P < P := Nat.mod_lt _ hP0
        have hdl : f / P ≤ f := Nat.div_le_self _ _
        generalize f / P = D at *
        generalize f % P = R at *
        have HU := Lib.hid (unaryRefW_any (RowTo.nil w) (Nat.le_refl _) (by simp) (D : Int))
        have tail : Hid (∀ (w1 : World) (v1 : Value), Bitrow w1 w.heap.size v1 (List.replicate D 0 ++ [1]) → Only Nix w w1 → D ≤ 65536 → Calls Tryz.prog 48 #[v1, iv p, iv R, .bool false] w1 fun e w' => ∃ v', e = .returned (.tuple #[v', .int .i64 0]) ∧ (Bitrow w' w.heap.size v' ((List.replicate D 0 ++ [1]) ++ bitsN p R) ∧ Only Nix w w')) := Lib.hid (by
          intro w1 v1 hr ho hD
          refine (putRefW_any false hr ho.size (by simp; omega) (p : Int) (R : Int)).mono ?_
          rintro e w2 ⟨v', rfl, hrow⟩
          obtain ⟨e1, e2⟩ := ref_ok false (List.replicate D 0 ++ [1]) p (R : Int) (by omega) ((refNum_put p (R : Int)).2 ⟨by omega, by rw [hpw]; omega⟩)
          rw [e1]
          rw [e2, Int.emod_eq_of_lt (by omega) (by rw [hpw]; omega), Int.toNat_natCast] at hrow
          exact ⟨v', rfl, hrow.then hr ho⟩)
        by_cases hD : D ≤ 65536
        · have hD2 : decide ((65536 : Int) < (D : Int)) = false := by simp; omega
          have e1 : unE (D : Int) = 0 := by unfold unE; rw [if_neg (by omega)]
          have e2 : unL [] (D : Int) = List.replicate D 0 ++ [1] := by unfold unL; rw [e1, if_pos rfl, Int.toNat_natCast]; simp
          rw [e1, e2] at HU
          clear e1 e2
          generalize List.replicate D 0 ++ [1] = T at *
          by_cases hx0 : x < 0
          · have hxd : decide (x < 0) = true := by simpa using hx0
            have hfx1 := hfx.1 hx0
            clear hfx
            have hx2 : Hid (x < 0) := Lib.hid hx0
            go_enter Tryz.func87, Tryz.ntmps87
            go_wp2_with fail
            refine (HU.out).mono ?_
            rintro e w2 ⟨v', rfl, hrow⟩
            have HR := Lib.hid (RowTo.new hrow)
            obtain ⟨A4, c4, hv4⟩ := owns_slice hrow.1
            subst hv4
            clear hrow
            go_wp2_with fail
            refine (tail.out _ _ HR.out.1 HR.out.2 hD).mono ?_
            rintro e w3 ⟨v3, rfl, hr3⟩
            have HR3 := Lib.hid hr3
            obtain ⟨A5, c5, hv5⟩ := owns_slice hr3.1
            subst hv5
            clear hr3
            go_wp2
            go_ret2
            exact ⟨_, true, rfl, HR3.out.2, fun _ => ⟨HK.out.1.2 hD, by rw [HK.out.2]; have h9 := HR3.out.1; rw [List.length_append] at h9; exact h9⟩, fun h => by cases h⟩
          · have hxd : decide (x < 0) = false := by simpa using hx0
            have hfx1 := hfx.2 hx0
            clear hfx
            go_enter Tryz.func87, Tryz.ntmps87
            go_wp2_with fail
            refine (HU.out).mono ?_
            rintro e w2 ⟨v', rfl, hrow⟩
            have HR := Lib.hid (RowTo.new hrow)
            obtain ⟨A4, c4, hv4⟩ := owns_slice hrow.1
            subst hv4
            clear hrow
            go_wp2_with fail
            refine (tail.out _ _ HR.out.1 HR.out.2 hD).mono ?_
            rintro e w3 ⟨v3, rfl, hr3⟩
            have HR3 := Lib.hid hr3
            obtain ⟨A5, c5, hv5⟩ := owns_slice hr3.1
            subst hv5
            clear hr3
            go_wp2
            go_ret2
            exact ⟨_, true, rfl, HR3.out.2, fun _ => ⟨HK.out.1.2 hD, by rw [HK.out.2]; have h9 := HR3.out.1; rw [List.length_append] at h9; exact h9⟩, fun h => by cases h⟩
        · have hD2 : decide ((65536 : Int) < (D : Int)) = true := by simp; omega
          clear HU tail
          by_cases hx0 : x < 0
          · have hxd : decide (x < 0) = true := by simpa using hx0
            have hfx1 := hfx.1 hx0
            clear hfx
            go_enter Tryz.func87, Tryz.ntmps87
            go_wp2
            go_ret2
            exact ⟨_, false, rfl, Only.refl _ _, fun h => (by cases h), fun _ h => hD (HK.out.1.1 h)⟩
          · have hxd : decide (x < 0) = false := by simpa using hx0
            have hfx1 := hfx.2 hx0
            clear hfx
            go_enter Tryz.func87, Tryz.ntmps87
            go_wp2
            go_ret2
            exact ⟨_, false, rfl, Only.refl _ _, fun h => (by cases h), fun _ h => hD (HK.out.1.1 h)⟩
end Go.Proofs.YteklfkpeaadinaaGreatDoor
