/-
  The document's answer: Bits, Number.
-/
import Derived.Test.YtliemhadgbjjiaaROpen
namespace Go.Proofs.Ytliemhadgbjjiaa
open Go.RowKit


/-- bits as values -/
def bv (l : List Nat) : List Value := l.map fun (b : Nat) => iv (b : Int)
theorem bv_len (l : List Nat) : (bv l).length = l.length := by simp [bv]
theorem bv_append (a b : List Nat) : bv (a ++ b) = bv a ++ bv b := by simp [bv]
theorem i64_and1 (a : Nat) (h : a < 2 ^ 62) : bits .and .i64 (a : Int) 1 = ((a % 2 : Nat) : Int) := by
  have := i64_and_nat a 1 h (by decide)
  rw [Nat.and_one_is_mod] at this
  exact this
theorem bits_take (x j : Nat) (hj : j < 8) : (bitsN 8 x).take (j + 1) = (bitsN 8 x).take j ++ [x / 2 ^ (7 - j) % 2] := by
  have h : j = 0 ∨ j = 1 ∨ j = 2 ∨ j = 3 ∨ j = 4 ∨ j = 5 ∨ j = 6 ∨ j = 7 := by omega
  rcases h with rfl | rfl | rfl | rfl | rfl | rfl | rfl | rfl <;> simp [bitsN]

def OutB (w : World) (bs : List Nat) (s3 s4 : Value) (wr : World) : Prop :=
  ∃ i : Nat, i ≤ bs.length ∧ s4 = iv i ∧ wr.ownsRow w.heap.size 3 1 s3 (8 * i) (bv (bitsOf (bs.take i))) ∧ Only Nix w wr
def InB (w : World) (bs : List Nat) (i x : Nat) (s3 s5 : Value) (wr : World) : Prop :=
  ∃ j : Nat, j ≤ 8 ∧ s5 = iv (7 - (j : Int)) ∧ wr.ownsRow w.heap.size 3 1 s3 (8 * i + j) (bv (bitsOf (bs.take i) ++ (bitsN 8 x).take j)) ∧ Only Nix w wr

theorem Src.keepC {w w' : World} {v : Value} {bs : List Nat} (h : Src w v bs) (ho : Only Nix w w') : Src w' v bs := h.nix ho

set_option maxRecDepth 100000 in
set_option maxHeartbeats 1000000 in
theorem bitsRef_any {w : World} {v0 : Value} {bs : List Nat} (h : Src w v0 bs) (hl : bs.length ≤ 300) (hlt : ∀ x ∈ bs, x < 256) :
    Calls Try.prog 29 #[v0] w fun e w' => ∃ v, e = .returned v ∧ w'.ownsRow w.heap.size 3 1 v (8 * bs.length) (bv (bitsOf bs)) ∧ Only Nix w w' := by
  obtain ⟨A, c, hv⟩ := h.slice
  subst hv
  obtain ⟨i0, hi, hz0, hz1, hz2⟩ := info_parts Try.info_int
  go_enter Try.func29, Try.ntmps29
  go_wp2
  go_loopw [3, 4] (fun s3 s4 wr => OutB w bs s3 s4 wr) (fun _ s4 _ => bs.length - (intOf s4).toNat)
  case atStart => exact ⟨0, Nat.zero_le _, rfl, World.ownsRow_nil _ _ _ _, Only.refl _ _⟩
  case round =>
    obtain ⟨i, hi1, rfl, hown, ho⟩ := hrel
    by_cases hlt1 : i < bs.length
    · obtain ⟨ad, c', e1, hx⟩ := (h.nix ho).at_ hlt1
      injection e1 with e1 _ e2
      subst e1 e2
      have hx256 := hlt _ (List.getElem_mem hlt1)
      have hbi : bitsOf (bs.take (i + 1)) = bitsOf (bs.take i) ++ bitsN 8 bs[i] := by
        rw [List.take_succ_eq_append_getElem hlt1, bitsOf_append, bitsOf_cons, bitsOf_nil, List.append_nil]
      have Hbi := Lib.hid hbi
      have hxk : ∀ u, Only Nix w u → u.cell? (ad.add i) = some (byt bs[i]) := fun u hu => by
        obtain ⟨ad', c'', e, hc⟩ := (h.nix hu).at_ hlt1
        injection e with e _ _
        injection e with e
        subst e
        exact hc
      have Hxk := Lib.hid hxk
      clear hbi hxk hx
      generalize bs[i] = x at *
      have hlt2 : (i : Int) < (bs.length : Int) := by omega
      obtain ⟨A3, c3, hv3⟩ := owns_slice hown
      subst hv3
      have Hown := Lib.hid hown
      clear hown
      go_wp2
      go_loopw [3, 5] (fun s3 s5 wi => InB w bs i x s3 s5 wi) (fun _ s5 _ => (intOf s5 + 1).toNat)
      case atStart => exact ⟨0, by omega, rfl, by simpa using Hown.out, ho⟩
      case round =>
        clear ho Hown
        obtain ⟨j, hj, rfl, hown, ho⟩ := hrel
        obtain ⟨A4, c4, hv4⟩ := owns_slice hown
        subst hv4
        by_cases hj8 : j < 8
        · have hxx := Hxk.out _ ho
          unfold byt at hxx
          obtain ⟨k, hk⟩ : ∃ k : Nat, 7 - (j : Int) = (k : Int) ∧ k + j = 7 := ⟨7 - j, by omega, by omega⟩
          rw [hk.1]
          have hk7 : k ≤ 7 := by omega
          have hge : (0 : Int) ≤ (k : Int) := by omega
          have Hown := Lib.hid hown
          have Hk := Lib.hid hk
          have hsz := ho.size
          clear hown hk
          go_wp2_with (at_builtin; refine wpList_append_own _ rfl (.tmp 16) (.tmp 25) 22 rfl w.heap.size 3 i0 (.int .i64 0) 1 8 Try.underlying22 hi hz0 hz1 hz2 rfl (by decide) (.slice A4 (8 * i + j) c4) (8 * i + j) (bv (bitsOf (bs.take i) ++ (bitsN 8 x).take j)) rfl ?hown ⟨wr.heap.size, 0, none⟩ 1 1 [.int .i64 (bits .and .i64 ((x : Int) / 2 ^ k) 1)] rfl ?hl ?hnews ?h1 ?h63 ?hby ?hbase ?rest)
          case hown => exact Hown.out.alloc _
          case hl => rfl
          case hnews =>
            intro j u hu
            rw [Addr.add_lit]
            match j, hu with
            | 0, hu => simp at hu; subst hu; simp
          case h1 => intro u hu; simp at hu; subst hu; rfl
          case h63 => unfold maxLen; omega
          case hby => omega
          case hbase => simp; omega
          case rest =>
            intro v3 w3 hown3 hgr _
            have ho3 : Only Nix w w3 := (ho.alloc _).grown hgr (fun g e => .inr (Hown.out.lt g e).1)
            obtain ⟨A5, c5, hv5⟩ := owns_slice hown3
            subst hv5
            have Hown3 := Lib.hid hown3
            clear hown3 hgr
            go_wp2
            go_roundw
            case rel =>
              refine ⟨j + 1, by omega, by have := Hk.out; go_num, ?_, ho3⟩
              have hk := Hk.out
              have e5 : (x : Int) / 2 ^ k = ((x / 2 ^ k : Nat) : Int) := by rw [pow_cast, ← Int.natCast_ediv]
              have hle : x / 2 ^ k ≤ x := Nat.div_le_self _ _
              have h3 := Hown3.out
              rw [e5, i64_and1 _ (by omega), show k = 7 - j from by omega] at h3
              rw [bits_take x j hj8, ← List.append_assoc, bv_append]
              exact h3
            case measure => have := Hk.out; first | (simp [intOf]; done) | (simp [intOf]; omega)
        · obtain rfl : j = 8 := by omega
          have hge : ¬ (0 : Int) ≤ 7 - ((8 : Nat) : Int) := by omega
          have Hown := Lib.hid hown
          clear hown
          go_wp2
          go_roundw
          case rel =>
            refine ⟨i + 1, by omega, by go_num, ?_, ho⟩
            have h3 := Hown.out
            rw [List.take_of_length_le (l := bitsN 8 x) (by rw [bitsN_len]; exact Nat.le_refl _), ← Hbi.out] at h3
            exact h3
          case measure => simp [intOf]; omega
    · obtain rfl : i = bs.length := by omega
      go_wp2
      go_ret
      exact ⟨_, rfl, by rw [List.take_length] at hown; exact hown, ho⟩

/-- Number: of bits, the first one less if signed -/
def refNum (s : Bool) (l : List Nat) : Int := if s = true then (val l : Int) - (l.headD 0 : Int) * 2 ^ l.length else (val l : Int)
theorem refNum_one (s : Bool) (b : Nat) : refNum s [b] = if s = true then -(b : Int) else (b : Int) := by
  unfold refNum
  cases s
  · simp [val]
  · simp [val]; omega
theorem refNum_snoc (s : Bool) (l : List Nat) (b : Nat) (hl : l ≠ []) : refNum s (l ++ [b]) = 2 * refNum s l + (b : Int) := by
  unfold refNum
  have e : val (l ++ [b]) = val l * 2 + b := by rw [val_append]; simp [val]
  have eh : (l ++ [b]).headD 0 = l.headD 0 := by
    cases l with
    | nil => exact absurd rfl hl
    | cons x l => rfl
  rw [e, eh, List.length_append, List.length_singleton, Int.pow_succ]
  cases s
  · simp; omega
  · simp only [if_true]
    rw [← Int.mul_assoc]
    generalize (l.headD 0 : Int) * 2 ^ l.length = z
    omega
theorem refNum_bd (s : Bool) (l : List Nat) (h1 : ∀ b ∈ l, b ≤ 1) (h : l.length ≤ 48) : -281474976710656 ≤ refNum s l ∧ refNum s l ≤ 281474976710656 := by
  have hv := val_lt l h1
  have hp := pow_le_of h
  have hh : l.headD 0 ≤ 1 := by
    cases l with
    | nil => simp
    | cons x l => exact h1 x (List.mem_cons_self ..)
  unfold refNum
  rw [pow_cast]
  generalize 2 ^ l.length = P at *
  have hm : (l.headD 0 : Int) * (P : Int) = 0 ∨ (l.headD 0 : Int) * (P : Int) = (P : Int) := by
    rcases Nat.eq_zero_or_pos (l.headD 0) with e | e
    · left; rw [e]; simp
    · right; rw [show l.headD 0 = 1 from by omega]; simp
  split
  · rcases hm with e | e <;> rw [e] <;> omega
  · omega

/-- The slice v0 holds these bits. -/
def BitsIn (w : World) (v0 : Value) (l : List Nat) : Prop :=
  (∃ A c, v0 = .slice A 0 c ∧ l = []) ∨ ∃ b off c, v0 = .slice (some ⟨b, off, none⟩) l.length c ∧ ∀ j, (hj : j < l.length) → w.cell? ⟨b, off + j, none⟩ = some (iv (l[j] : Int))
def NumbRel (l : List Nat) (s : Bool) (s5 s6 : Value) : Prop := ∃ i : Nat, i ≤ l.length ∧ s6 = iv i ∧ s5 = iv (refNum s (l.take i))

set_option maxRecDepth 100000 in
set_option maxHeartbeats 1000000 in
theorem numberRef_any {w : World} {v0 : Value} {l : List Nat} (s : Bool) (h : BitsIn w v0 l) (h1 : ∀ b ∈ l, b ≤ 1) (hl : l.length ≤ 48) :
    Calls Try.prog 52 #[v0, .bool s] w fun e w' => e = .returned (.int .i64 (refNum s l)) ∧ w = w' := by
  obtain ⟨A, c, hv⟩ : ∃ A c, v0 = .slice A l.length c := by
    rcases h with ⟨A, c, hv, rfl⟩ | ⟨b, off, c, hv, _⟩
    · exact ⟨A, c, hv⟩
    · exact ⟨_, c, hv⟩
  subst hv
  have e0 : refNum s [] = 0 := by cases s <;> rfl
  go_enter Try.func52, Try.ntmps52
  go_wp2
  go_loop [5, 6] (fun s5 s6 => NumbRel l s s5 s6) (fun _ s6 => l.length - (intOf s6).toNat)
  case atStart => exact ⟨0, Nat.zero_le _, rfl, by rw [List.take_zero, e0]⟩
  case round =>
    clear e0
    obtain ⟨i, hi, rfl, rfl⟩ := hrel
    by_cases hlt : i < l.length
    · rcases h with ⟨_, _, _, rfl⟩ | ⟨b, off, c', hv, hc⟩
      · simp at hlt
      · injection hv with e1 _ e2
        subst e1 e2
        have hx := hc i hlt
        have hx0 := hc 0 (by omega)
        have hbl := h1 _ (List.getElem_mem hlt)
        have hbl0 := h1 _ (List.getElem_mem (show 0 < l.length by omega))
        have hbd := refNum_bd s (l.take i) (fun b hb => h1 b (List.mem_of_mem_take hb)) (by have := List.length_take_le i l; omega)
        have hts : l.take (i + 1) = l.take i ++ [l[i]] := List.take_succ_eq_append_getElem hlt
        have hlt2 : (i : Int) < (l.length : Int) := by omega
        have hp0 : (0 : Int) < (l.length : Int) := by omega
        have hstep : Hid (refNum s (l.take (i + 1)) = if i = 0 then (if s = true then -(l[i] : Int) else (l[i] : Int)) else 2 * refNum s (l.take i) + (l[i] : Int)) := by
          show _ = _
          rw [hts]
          split
          · rename_i e; subst e; rw [List.take_zero, List.nil_append, refNum_one]
          · rename_i e
            exact refNum_snoc s _ _ (fun hn => e (by have := congrArg List.length hn; rw [List.length_take, List.length_nil] at this; omega))
        by_cases hi0 : i = 0
        · subst hi0
          have hr0 : refNum s (l.take 0) = 0 := by rw [List.take_zero]; cases s <;> rfl
          rw [hr0] at hbd ⊢
          simp only [Nat.add_zero] at hx hx0
          clear hts hr0 hc
          generalize l[0] = y at *
          cases s
          · go_wp2
            go_round
            case rel => exact ⟨1, by omega, by go_num, by rw [hstep.out]; simp⟩
            case measure => simp [intOf]; omega
          · go_wp2
            go_round
            case rel => exact ⟨1, by omega, by go_num, by rw [hstep.out]; simp⟩
            case measure => simp [intOf]; omega
        · have hib : ((i : Int) == 0) = false := by rw [beq_eq_false_iff_ne]; omega
          clear hts hx0 hc
          generalize l[i] = y at *
          generalize refNum s (l.take i) = R at *
          go_wp2
          go_round
          case rel => exact ⟨i + 1, by omega, by go_num, by rw [hstep.out, if_neg hi0]⟩
          case measure => simp [intOf]; omega
    · obtain rfl : i = l.length := by omega
      go_wp2
      go_ret
      exact ⟨rfl, rfl⟩
end Go.Proofs.Ytliemhadgbjjiaa
