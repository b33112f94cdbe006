/-
  The document's answer: a number's bits, put, and bits as bytes.
-/
import Derived.Test.YteahiigfclabfaaDoorHWA
namespace Go.Proofs.YteahiigfclabfaaDoor.U
open Go.RowKit

/-- Number of bits, unsigned -/
def NumbRel (l : List Nat) (s5 s6 : Value) : Prop := ∃ i : Nat, i ≤ l.length ∧ s6 = iv i ∧ s5 = iv (val (l.take i) : Nat)
theorem val_snoc (l : List Nat) (b : Nat) : val (l ++ [b]) = 2 * val l + b := by rw [val_append]; simp [val]; omega
set_option maxRecDepth 100000 in
set_option maxHeartbeats 2000000 in
theorem numberRef_any {w : World} {v0 : Value} {l : List Nat} (h : BitsIn w v0 l) (h1 : ∀ b ∈ l, b ≤ 1) (hl : l.length ≤ 48) :
    Calls Tryd.prog 56 #[v0, .bool false] w fun e w' => e = .returned (iv (val l : Nat)) ∧ w = w' := by
  obtain ⟨A, c, hv, hc⟩ := h
  subst hv
  have HC := Lib.hid hc
  clear hc
  go_enter Tryd.func56, Tryd.ntmps56
  go_wp2
  go_loop [5, 6] (fun s5 s6 => NumbRel l s5 s6) (fun _ s6 => l.length - (intOf s6).toNat)
  case atStart => exact ⟨0, Nat.zero_le _, rfl, rfl⟩
  case round =>
    obtain ⟨i, hi, rfl, rfl⟩ := hrel
    by_cases hlt : i < l.length
    · obtain ⟨ad, e1, hx⟩ := HC.out i hlt
      subst e1
      have hbl := h1 _ (List.getElem_mem hlt)
      have hbd : val (l.take i) < 2 ^ 48 := Nat.lt_of_lt_of_le (val_lt _ (fun b hb => h1 b (List.mem_of_mem_take hb))) (pow_le_of (by have := List.length_take_le i l; omega))
      have hts : l.take (i + 1) = l.take i ++ [l[i]] := List.take_succ_eq_append_getElem hlt
      have hlt2 : (i : Int) < (l.length : Int) := by omega
      have hstep : Hid (val (l.take (i + 1)) = 2 * val (l.take i) + l[i]) := Lib.hid (by rw [hts, val_snoc])
      clear hts
      generalize l[i] = y at *
      generalize val (l.take i) = R at *
      by_cases hi0 : i = 0
      · subst hi0
        have hx0 : w.cell? ad = some (iv y) := by rw [Addr.add_zero'] at hx; exact hx
        go_wp2
        go_round
        case rel => exact ⟨1, by omega, by go_num, by rw [hstep.out]; go_num⟩
        case measure => simp [intOf]; omega
      · have hib : ((i : Int) == 0) = false := by rw [beq_eq_false_iff_ne]; omega
        go_wp2
        go_round
        case rel => exact ⟨i + 1, by omega, by go_num, by rw [hstep.out]; go_num⟩
        case measure => simp [intOf]; omega
    · obtain rfl : i = l.length := by omega
      go_wp2
      go_ret
      exact ⟨ret1 rfl, rfl⟩

theorem bitsN_snoc (n U j : Nat) (hj : j < n) : (bitsN n U).take (j + 1) = (bitsN n U).take j ++ [U / 2 ^ (n - 1 - j) % 2] := by
  have hl := bitsN_len n U
  rw [List.take_succ_eq_append_getElem (by omega)]
  congr 2
  have h1 := bitsN_piece n U j 1 (by omega)
  have h2 : ((bitsN n U).drop j).take 1 = [(bitsN n U)[j]'(by omega)] := by rw [List.drop_eq_getElem_cons (by omega)]; rfl
  rw [h2] at h1
  have h3 := (List.cons.inj h1).1
  rw [h3, show n - j - 1 = n - 1 - j from by omega]; simp

/-- a row of bits of the call's own -/
def Bitrow (w : World) (base : Nat) (v : Value) (l : List Nat) : Prop := w.ownsRow base 3 1 v l.length (bv l)
/-- .. more behind it -/
theorem wpList_append_bits {w : World} {ops : Array Oper} {rest : List Oper} {o : Oper} {a : Act} {Q : Exit → Act → World → Prop} (hgd : o.guard = none) (s x : Operand)
    (ho : o.op = .call { callee := .builtin .append, args := #[s, x], argTypes := #[69, 69] })
    (base : Nat) (v : Value) (l : List Nat) (hs : a.eval s = v) (hown : Bitrow w base v l)
    (H m c : Nat) (M : List Nat) (hx : a.eval x = .slice (some ⟨H, 0, none⟩) m c) (hm : M.length = m) (hbox : Box w H 3 (bv M).toArray) (h63 : l.length + M.length ≤ 1000000) (hbase : base ≤ w.heap.size)
    (h : ∀ v' w', Bitrow w' base v' (l ++ M) → w.grownBy w' v.ownBlock → wpList Tryd.prog ops Q rest (a.put o.dst v') w') :
    wpList Tryd.prog ops Q (o :: rest) a w := by
  obtain ⟨i0, hi, hz0, hz1, hz2⟩ := info_parts Tryd.info_int
  subst hm
  refine wpList_append_own _ hgd s x 69 ho base 3 i0 (.int .i64 0) 1 8 Tryd.underlying69 hi hz0 hz1 hz2 rfl (by decide) v l.length (bv l) hs hown ⟨H, 0, none⟩ M.length c (bv M) hx (by rw [bv_len, Nat.mul_one]) ?_ ?_ (by unfold maxLen; omega) (by omega) hbase ?_
  · intro j u hu
    rw [Addr.add_lit, Nat.zero_add, hbox.cell]
    simpa using hu
  · intro u hu
    obtain ⟨y, _, rfl⟩ := List.mem_map.1 hu
    rfl
  · intro v' w' h1 h2 _
    refine h v' w' ?_ h2
    unfold Bitrow
    rw [List.length_append, bv_append]
    exact h1
/-- from B on -/
def Top (B k : Nat) : Prop := B ≤ k
theorem Only.top {B : Nat} {w w' : World} (h : Only Nix w w') : Only (Top B) w w' := h.nix
theorem row_keep {w w' : World} {B : Nat} {v : Value} {l : List Nat} (h : Bitrow w B v l) (ho : Only Nix w w') : Bitrow w' B v l := owns_only h ho (fun _ _ e => e)
theorem row_in {w : World} {B : Nat} {v : Value} {l : List Nat} (h : Bitrow w B v l) : BitsIn w v l := BitsIn.of_owns rfl h
set_option maxRecDepth 100000 in
set_option maxHeartbeats 2000000 in
theorem wpList_join_bits {w : World} {ops : Array Oper} {rest : List Oper} {o : Oper} {a : Act} {Q : Exit → Act → World → Prop} (hgd : o.guard = none) (s x : Operand)
    (ho : o.op = .call { callee := .builtin .append, args := #[s, x], argTypes := #[69, 69] })
    (B B2 : Nat) (v v2 : Value) (l M : List Nat) (hs : a.eval s = v) (hx : a.eval x = v2) (hown : Bitrow w B v l) (hown2 : Bitrow w B2 v2 M) (h0 : 0 < M.length) (h63 : l.length + M.length ≤ 1000000) (hbase : B ≤ w.heap.size)
    (h : ∀ v' w', Bitrow w' B v' (l ++ M) → Only (Top B) w w' → wpList Tryd.prog ops Q rest (a.put o.dst v') w') :
    wpList Tryd.prog ops Q (o :: rest) a w := by
  obtain ⟨i0, hi, hz0, hz1, hz2⟩ := info_parts Tryd.info_int
  obtain ⟨g, c, rfl⟩ : ∃ g c, v2 = .slice (some ⟨g, 0, none⟩) M.length c := by
    rcases hown2.2 with ⟨_, hn⟩ | ⟨g, cap, cur, hv9, _⟩
    · omega
    · exact ⟨g, cap, hv9⟩
  refine wpList_append_own _ hgd s x 69 ho B 3 i0 (.int .i64 0) 1 8 Tryd.underlying69 hi hz0 hz1 hz2 rfl (by decide) v l.length (bv l) hs hown ⟨g, 0, none⟩ M.length c (bv M) hx (by rw [bv_len, Nat.mul_one]) ?_ ?_ (by unfold maxLen; omega) (by omega) hbase ?_
  · exact World.ownsRow.cells hown2 (g := g) rfl
  · intro u hu
    obtain ⟨y, _, rfl⟩ := List.mem_map.1 hu
    rfl
  · intro v' w' h1 h2 _
    refine h v' w' ?_ ((Only.refl _ _).grown h2 (fun k hk => .inl (World.ownsRow.lt hown k hk).1))
    unfold Bitrow
    rw [List.length_append, bv_append]
    exact h1

def PutRel (w : World) (n U : Nat) (s10 s11 : Value) (wr : World) : Prop := ∃ j : Nat, j ≤ n ∧ s11 = iv ((n : Int) - 1 - (j : Int)) ∧ Bitrow wr w.heap.size s10 ((bitsN n U).take j) ∧ Only Nix w wr

set_option maxRecDepth 100000 in
set_option maxHeartbeats 2000000 in
/-- Put of a number that is one of n bits -/
theorem putRef1_any {w : World} {B : Nat} {v : Value} {l : List Nat} (h : Bitrow w B v l) (hb : B ≤ w.heap.size) (hl : l.length ≤ 1000) (m U : Nat) (hm0 : 1 ≤ m) (hm : m ≤ 48) (hU : U < 2 ^ m) :
    Calls Tryd.prog 38 #[v, iv m, iv U, .bool false] w fun e w' => ∃ v', e = .returned (.tuple #[v', iv 0]) ∧ Bitrow w' B v' (l ++ bitsN m U) ∧ Only (Top B) w w' ∧ w.heap.size < w'.heap.size := by
  obtain ⟨i0, hi, hz0, hz1, hz2⟩ := info_parts Tryd.info_int
  obtain ⟨A0, c0, hv0⟩ := owns_slice h
  subst hv0
  have hd : decide ((m : Int) < 0) = false := by simp
  have hd2 : decide ((48 : Int) < (m : Int)) = false := by simp; omega
  have hbl := bitsN_len m U
  have hU48 : U < 281474976710656 := Nat.lt_of_lt_of_le hU (pow_le_of (M := 48) hm)
  have Hv : Hid (val (bitsN m U) = U) := Lib.hid (by rw [val_bitsN, Nat.mod_eq_of_lt hU])
  have Hbl := Lib.hid hbl
  have Hh := Lib.hid h
  clear h hbl hU
  go_enter Tryd.func38, Tryd.ntmps38
  go_wp2
  go_loopw [10, 11] (fun s10 s11 wr => PutRel w m U s10 s11 wr) (fun _ s11 _ => (intOf s11 + 1).toNat)
  case atStart => exact ⟨0, Nat.zero_le _, by simp, World.ownsRow_nil _ _ _ _, Only.refl _ _⟩
  case round =>
    obtain ⟨j, hj, rfl, hrow, ho⟩ := hrel
    have hsz := ho.size
    obtain ⟨A4, c4, hv4⟩ := owns_slice hrow
    subst hv4
    have Hrow := Lib.hid hrow
    clear hrow
    by_cases hlt : j < m
    · obtain ⟨k, hk⟩ : ∃ k : Nat, (m : Int) - 1 - (j : Int) = (k : Int) ∧ k + j + 1 = m := ⟨m - 1 - j, by omega, by omega⟩
      rw [hk.1]
      have hge : (0 : Int) ≤ (k : Int) := by omega
      have hk48 : k ≤ 48 := by omega
      have Hk := Lib.hid hk
      clear hk
      generalize hTe : (bitsN m U).take j = T at *
      have hTl : T.length ≤ 48 := by rw [← hTe, List.length_take, Hbl.out]; omega
      have HTe := Lib.hid hTe
      clear hTe
      go_wp2_with (at_builtin; refine wpList_append_own _ rfl (.tmp 25) (.tmp 30) 69 rfl w.heap.size 3 i0 (.int .i64 0) 1 8 Tryd.underlying69 hi hz0 hz1 hz2 rfl (by decide) (.slice A4 T.length c4) T.length (bv T) rfl ?hown ⟨wr.heap.size, 0, none⟩ 1 1 [.int .i64 (bits .and .i64 ((U : Int) / 2 ^ k) 1)] rfl ?hl ?hnews ?h1 ?h63 ?hby ?hbase ?rest)
      case hown => exact World.ownsRow.alloc Hrow.out _
      case hl => rfl
      case hnews =>
        intro j u hu
        rw [Addr.add_lit]
        match j, hu with
        | 0, hu => simp at hu; subst hu; simp
      case h1 => intro u hu; simp at hu; subst hu; rfl
      case h63 => unfold maxLen; omega
      case hby => omega
      case hbase => simp; omega
      case rest =>
        intro v3 w3 hown3 hgr _
        have ho3 : Only Nix w w3 := (ho.alloc _).grown hgr (fun q e => .inr (World.ownsRow.lt Hrow.out q e).1)
        obtain ⟨A5, c5, hv5⟩ := owns_slice hown3
        subst hv5
        have Hown3 := Lib.hid hown3
        clear hown3 hgr
        go_wp2
        go_roundw
        case rel =>
          have hk := Hk.out
          refine ⟨j + 1, by omega, by go_num, ?_, ho3⟩
          have h9 := Hown3.out
          have hle : U / 2 ^ k ≤ U := Nat.div_le_self _ _
          rw [pow_cast, ← Int.natCast_ediv, i64_and1 _ (by omega), show k = m - 1 - j from by omega] at h9
          unfold Bitrow
          rw [bitsN_snoc m U j hlt, HTe.out, bv_append, List.length_append]
          exact h9
        case measure => have := Hk.out; first | (simp [intOf]; done) | (simp [intOf]; omega)
    · obtain rfl : j = m := by omega
      have hneg : ¬ (0 : Int) ≤ (j : Int) - 1 - (j : Int) := by omega
      have hneg2 : decide ((0 : Int) ≤ (j : Int) - 1 - (j : Int)) = false := by simpa using hneg
      have hrow := Hrow.out
      rw [List.take_of_length_le (by rw [Hbl.out]; exact Nat.le_refl _)] at hrow
      have hnum := numberRef_any (row_in hrow) (bitsN_le j U) (by rw [Hbl.out]; exact hm)
      rw [Hv.out] at hnum
      rw [List.take_of_length_le (by rw [Hbl.out]; exact Nat.le_refl _)] at Hrow ⊢
      generalize hTe : bitsN j U = T at *
      have HTe := Lib.hid hTe
      clear hTe
      have Hnum := Lib.hid hnum
      clear hnum hrow
      go_wp2_with fail
      refine (Hnum.out).mono ?_
      rintro e w5 ⟨rfl, rfl⟩
      have hxb : ((U : Int) != (U : Int)) = false := by simp
      have HR := Lib.hid (row_keep Hh.out ho)
      have hTl := Hbl.out
      have hgrow : w.heap.size < wr.heap.size := by
        rcases Hrow.out.2 with ⟨_, hn0⟩ | ⟨g4, cap, cur, hv9, _⟩
        · omega
        · have h9 := World.ownsRow.lt Hrow.out g4 (by rw [hv9]; rfl)
          omega
      have hTl2 : 0 < T.length := by omega
      have hTl1 : l.length + T.length ≤ 1000000 := by omega
      clear hTl
      go_wp2_with (at_builtin; refine wpList_join_bits rfl (.tmp 38) (.tmp 39) rfl B w.heap.size (.slice A0 l.length c0) (.slice A4 T.length c4) l T rfl rfl HR.out Hrow.out hTl2 hTl1 (by omega) ?restJ)
      case restJ =>
        intro v3 w3 hown3 ho3
        have Hm := Lib.hid hown3
        obtain ⟨A5, c5, hv5⟩ := owns_slice hown3
        subst hv5
        clear hown3
        go_wp2
        go_ret2
        exact ⟨_, rfl, by rw [HTe.out]; exact Hm.out, (Only.top ho).trans ho3, Nat.lt_of_lt_of_le hgrow ho3.size⟩

theorem numAt_succ (bs : List Nat) (a k b : Nat) (h : (bitsOf bs)[a + k]? = some b) : numAt bs a (k + 1) = numAt bs a k * 2 + b := by
  have hl : a + k < (bitsOf bs).length := (List.getElem?_eq_some_iff.1 h).1
  have h1 := val_more (bitsOf bs) a k 1 (by omega)
  have h2 : ((bitsOf bs).drop (a + k)).take 1 = [b] := by
    rw [List.drop_eq_getElem_cons hl, (List.getElem?_eq_some_iff.1 h).2]; rfl
  unfold numAt
  rw [h1, h2]
  simp [val]
theorem numAt_byte (bs : List Nat) (j : Nat) (h : j < bs.length) (hlt : ∀ x ∈ bs, x < 256) : numAt bs (8 * j) 8 = bs[j] := by
  have h1 := chunk bs (8 * j) 8 (by omega) (by omega)
  unfold numAt
  have e : 8 * j / 8 = j := by omega
  have hx := hlt _ (List.getElem_mem h)
  rw [h1]
  simp only [e]
  rw [show 8 - 8 * j % 8 - 8 = 0 from by omega, Nat.pow_zero, Nat.div_one, Nat.mod_eq_of_lt hx]

def OutP (w : World) (bs : List Nat) (s3 s4 : Value) (wr : World) : Prop :=
  ∃ j : Nat, j ≤ bs.length ∧ s4 = iv ((8 * j : Nat) : Int) ∧ wr.ownsRow w.heap.size 5 1 s3 j ((bs.take j).map byt) ∧ Only Nix w wr
def InP (bs : List Nat) (j : Nat) (s5 s6 : Value) : Prop := ∃ k : Nat, k ≤ 8 ∧ s6 = iv k ∧ s5 = iv (numAt bs (8 * j) k : Int)

set_option maxRecDepth 100000 in
set_option maxHeartbeats 2000000 in
theorem bytesRef_any {w : World} {base : Nat} {v : Value} {l bs : List Nat} (h : Bitrow w base v l) (hp : Packs bs l) (hl : l.length ≤ 1000000) :
    Calls Tryd.prog 41 #[v] w fun e w' => ∃ v', e = .returned v' ∧ w'.ownsRow w.heap.size 5 1 v' bs.length (bs.map byt) ∧ Only Nix w w' := by
  obtain ⟨i0, hi, hz0, hz1, hz2⟩ := info_parts Tryd.info_byte
  obtain ⟨A0, c0, hv0⟩ := owns_slice h
  subst hv0
  have hlo := hp.lo
  have hhi := hp.hi
  have hlt256 := hp.lt
  have Hp := Lib.hid hp
  have Hh := Lib.hid h
  have Hlt := Lib.hid hlt256
  clear h hp hlt256
  go_enter Tryd.func41, Tryd.ntmps41
  go_wp2
  go_loopw [3, 4] (fun s3 s4 wr => OutP w bs s3 s4 wr) (fun _ s4 _ => 8 * bs.length - (intOf s4).toNat)
  case atStart => exact ⟨0, Nat.zero_le _, rfl, World.ownsRow_nil _ _ _ _, Only.refl _ _⟩
  case round =>
    obtain ⟨j, hj, rfl, hown, ho⟩ := hrel
    obtain ⟨A4, c4, hv4⟩ := owns_slice hown
    subst hv4
    have Hown := Lib.hid hown
    have hsz := ho.size
    clear hown
    by_cases hlt : j < bs.length
    · have hc1 : ((8 * j : Nat) : Int) < (l.length : Int) := by omega
      have hc2 : 8 * (j : Int) < (l.length : Int) := by omega
      go_wp2
      go_loop [5, 6] (fun s5 s6 => InP bs j s5 s6) (fun _ s6 => 8 - (intOf s6).toNat)
      case atStart => exact ⟨0, by omega, rfl, by simp [numAt, val]⟩
      case round =>
        obtain ⟨k, hk, rfl, rfl⟩ := hrel
        by_cases hk8 : k < 8
        · have hbl := bitsOf_len bs
          have hN := numAt_lt bs (8 * j) k
          have hN2 := pow_le_of (show k ≤ 8 by omega)
          have hN3 : numAt bs (8 * j) k ≤ 256 := by omega
          have hk8i : (k : Int) < 8 := by omega
          by_cases hin : 8 * j + k < l.length
          · have hin2 : ((8 * j : Nat) : Int) + (k : Int) < (l.length : Int) := by omega
            have hin3 : 8 * (j : Int) + (k : Int) < (l.length : Int) := by omega
            obtain ⟨g, hg, hcell⟩ : ∃ g, A0 = some ⟨g, 0, none⟩ ∧ wr.cell? ⟨g, 8 * j + k, none⟩ = some (iv (l[8 * j + k] : Int)) := by
              have hw := owns_only Hh.out ho (fun _ _ e => e)
              rcases hw.2 with ⟨_, hn⟩ | ⟨g, cap, cur, hv9, _⟩
              · omega
              · injection hv9 with h8 _ h7
                subst h8 h7
                refine ⟨g, rfl, ?_⟩
                rw [hw.cellAt _ (by omega)]
                simp [bv, List.getElem?_eq_getElem hin]
            subst hg
            have hb1 : (bitsOf bs)[8 * j + k]? = some l[8 * j + k] := by
              rw [Hp.out.bits, List.getElem?_append_left hin, List.getElem?_eq_getElem hin]
            have hle1 := bitsOf_le bs l[8 * j + k] (List.mem_of_getElem? hb1)
            have Hs := Lib.hid (numAt_succ bs (8 * j) k _ hb1)
            have hil : (8 * j + k : Nat) < l.length := hin
            clear hb1 hbl hN hN2
            generalize l[8 * j + k] = y at *
            generalize numAt bs (8 * j) k = N at *
            go_wp2
            go_round
            case rel => exact ⟨k + 1, by omega, by go_num, by rw [Hs.out]; go_num⟩
            case measure => simp [intOf]; omega
          · have hin2 : ¬ ((8 * j : Nat) : Int) + (k : Int) < (l.length : Int) := by omega
            have hin3 : decide (8 * (j : Int) + (k : Int) < (l.length : Int)) = false := by simp; omega
            have hb1 : (bitsOf bs)[8 * j + k]? = some 0 := by
              rw [Hp.out.bits, List.getElem?_append_right (by omega), List.getElem?_replicate, if_pos (by omega)]
            have Hs := Lib.hid (numAt_succ bs (8 * j) k _ hb1)
            clear hb1 hbl hN hN2
            generalize numAt bs (8 * j) k = N at *
            go_wp2
            go_round
            case rel => exact ⟨k + 1, by omega, by go_num, by rw [Hs.out]; go_num⟩
            case measure => simp [intOf]; omega
        · obtain rfl : k = 8 := by omega
          have hN := numAt_byte bs j hlt Hlt.out
          rw [hN]
          have hx := Hlt.out _ (List.getElem_mem hlt)
          have hts : (bs.take (j + 1)).map byt = (bs.take j).map byt ++ [byt bs[j]] := by rw [List.take_succ_eq_append_getElem hlt, List.map_append]; rfl
          have Hts := Lib.hid hts
          clear hN hts
          generalize bs[j] = y at *
          generalize (bs.take j).map byt = T at *
          have hym : (y : Int) % 256 = (y : Int) := by omega
          go_wp2_with (at_builtin; refine wpList_append_own _ rfl (.tmp 33) (.tmp 36) 28 rfl w.heap.size 5 i0 (.int .u8 0) 1 1 Tryd.underlying28 hi hz0 hz1 hz2 rfl (by decide) (.slice A4 j c4) j T rfl ?hown ⟨wr.heap.size, 0, none⟩ 1 1 [byt y] rfl rfl ?hnews ?h1 ?h63 ?hby ?hbase ?rest)
          case hown => exact Hown.out.alloc _
          case hnews => intro j u hu; simpa [byt] using hu
          case h1 => rfl
          case h63 => unfold maxLen; omega
          case hby => omega
          case hbase => omega
          case rest =>
            intro v3 w3 hown3 hgr _
            have ho3 : Only Nix w w3 := (ho.alloc _).grown hgr (fun q e => .inr (Hown.out.lt q e).1)
            obtain ⟨A5, c5, hv5⟩ := owns_slice hown3
            subst hv5
            have Hown3 := Lib.hid hown3
            clear hown3 hgr
            go_wp2
            go_roundw
            case rel => exact ⟨j + 1, by omega, by go_num, by rw [Hts.out]; exact Hown3.out, ho3⟩
            case measure => simp [intOf]; omega
    · obtain rfl : j = bs.length := by omega
      have hc1 : ¬ (((8 * bs.length : Nat) : Int) < (l.length : Int)) := by omega
      have hc2 : decide (8 * (bs.length : Int) < (l.length : Int)) = false := by simp; omega
      go_wp2
      go_ret
      exact ⟨_, rfl, by have h9 := Hown.out; rw [List.take_length] at h9; exact h9, ho⟩
end Go.Proofs.YteahiigfclabfaaDoor.U
