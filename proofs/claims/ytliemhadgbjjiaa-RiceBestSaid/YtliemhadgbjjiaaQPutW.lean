/-
  The document's answer for a Writer: Unary, Put, walked.
-/
import Derived.Test.YtliemhadgbjjiaaQPut
import Derived.Deep.AppendLies
import Derived.Laws.AppendOwnNone
namespace Go.Proofs.Ytliemhadgbjjiaa
open Go.RowKit

/-- the row holds these bits then, where it lay or anew; nothing else has turned -/
def RowTo (w : World) (base : Nat) (v v' : Value) (l' : List Nat) (w' : World) : Prop := Bitrow w' base v' l' ∧ Only (RF v) w w' ∧ Moves w.heap.size v v'
theorem RowTo.same {w : World} {base : Nat} {v : Value} {l : List Nat} (h : Bitrow w base v l) : RowTo w base v v l w := ⟨h, Only.refl _ _, Moves.refl _ _⟩
/-- one append to it more -/
theorem RowTo.more {w w1 w2 : World} {base g c : Nat} {v v1 : Value} {l m : List Nat} {o : Obj} (h : RowTo w base v v1 l w1) (hown : w2.ownsRow base 3 1 (.slice (some ⟨g, 0, none⟩) (l.length + m.length) c) (l.length + m.length) (bv l ++ bv m)) (hg : (w1.alloc o).grownBy w2 v1.ownBlock)
    (hm : v1.ownBlock = some g ∨ g = w1.heap.size + 1) : RowTo w base v (.slice (some ⟨g, 0, none⟩) (l.length + m.length) c) (l ++ m) w2 := by
  obtain ⟨h1, h2, h3⟩ := h
  have hs := h2.size
  refine ⟨by unfold Bitrow; rw [List.length_append, bv_append]; exact hown, (h2.alloc o).grown hg (fun k e => ?_), fun k hk => ?_⟩
  · rcases h3 k e with h4 | h4
    · exact .inl h4
    · exact .inr h4
  · simp [Value.ownBlock] at hk
    subst hk
    rcases hm with h5 | h5
    · exact h3 g h5
    · exact .inr (by omega)

/-- .. from a row that lies there -/
theorem RowTo.join {w w1 w2 : World} {base g c : Nat} {v v1 : Value} {l m : List Nat} (h : RowTo w base v v1 l w1) (hown : w2.ownsRow base 3 1 (.slice (some ⟨g, 0, none⟩) (l.length + m.length) c) (l.length + m.length) (bv l ++ bv m)) (hg : w1.grownBy w2 v1.ownBlock)
    (hm : v1.ownBlock = some g ∨ g = w1.heap.size) : RowTo w base v (.slice (some ⟨g, 0, none⟩) (l.length + m.length) c) (l ++ m) w2 := by
  obtain ⟨h1, h2, h3⟩ := h
  have hs := h2.size
  refine ⟨by unfold Bitrow; rw [List.length_append, bv_append]; exact hown, h2.grown hg (fun k e => h3 k e), fun k hk => ?_⟩
  simp [Value.ownBlock] at hk
  subst hk
  rcases hm with h5 | h5
  · exact h3 g h5
  · exact .inr (by omega)

def UnwRel (w : World) (base m : Nat) (v : Value) (l : List Nat) (s0 s6 : Value) (wr : World) : Prop := ∃ i : Nat, i ≤ m ∧ s6 = iv i ∧ RowTo w base v s0 (l ++ List.replicate i 0) wr

set_option maxRecDepth 100000 in
set_option maxHeartbeats 1000000 in
theorem unaryRefW_any {w : World} {base : Nat} {v : Value} {l : List Nat} (h : Bitrow w base v l) (hb : base ≤ w.heap.size) (hl : l.length ≤ 100000000) (x : Int) :
    Calls Try.prog 53 #[v, .int .i64 x] w fun e w' => ∃ v', e = .returned (.tuple #[v', .int .i64 (unE x)]) ∧ RowTo w base v v' (unL l x) w' := by
  obtain ⟨i0, hi, hz0, hz1, hz2⟩ := info_parts Try.info_int
  obtain ⟨A0, c0, hv0⟩ := owns_slice h
  subst hv0
  by_cases h0 : x < 0
  · have e1 : unE x = 10 := by unfold unE; rw [if_pos (.inl h0)]
    have e2 : unL l x = l := by unfold unL; rw [e1]; rfl
    rw [e1, e2]
    clear e1 e2
    have hd : decide (x < 0) = true := by simpa using h0
    have H := Lib.hid (RowTo.same h)
    clear h
    go_enter Try.func53, Try.ntmps53
    go_wp2
    go_ret2
    exact ⟨_, rfl, H.out⟩
  · have hd : decide (x < 0) = false := by simpa using h0
    by_cases h1 : 65536 < x
    · have e1 : unE x = 10 := by unfold unE; rw [if_pos (.inr h1)]
      have e2 : unL l x = l := by unfold unL; rw [e1]; rfl
      rw [e1, e2]
      clear e1 e2
      have hd2 : decide (65536 < x) = true := by simpa using h1
      have H := Lib.hid (RowTo.same h)
      clear h
      go_enter Try.func53, Try.ntmps53
      go_wp2
      go_ret2
      exact ⟨_, rfl, H.out⟩
    · obtain ⟨m, rfl⟩ := Int.eq_ofNat_of_zero_le (show 0 ≤ x by omega)
      have hm : m ≤ 65536 := by omega
      have e1 : unE (m : Int) = 0 := by unfold unE; rw [if_neg (by omega)]
      have e2 : unL l (m : Int) = (l ++ List.replicate m 0) ++ [1] := by unfold unL; rw [e1, if_pos rfl, Int.toNat_natCast]
      rw [e1, e2]
      clear e1 e2
      have hd2 : decide ((65536 : Int) < (m : Int)) = false := by simp; omega
      have H := Lib.hid (RowTo.same h)
      clear h
      go_enter Try.func53, Try.ntmps53
      go_wp2
      go_loopw [0, 6] (fun s0 s6 wr => UnwRel w base m (.slice A0 l.length c0) l s0 s6 wr) (fun _ s6 _ => m - (intOf s6).toNat)
      case atStart => exact ⟨0, Nat.zero_le _, rfl, by simpa using H.out⟩
      case round =>
        obtain ⟨i, hi1, rfl, hrow⟩ := hrel
        generalize hLe : l ++ List.replicate i 0 = L at hrow
        have hLl : L.length ≤ 100065536 := by rw [← hLe, List.length_append, List.length_replicate]; omega
        have HLe := Lib.hid hLe
        clear hLe
        obtain ⟨A4, c4, hv4⟩ := owns_slice hrow.1
        subst hv4
        have hsz := hrow.2.1.size
        have Hrow := Lib.hid hrow
        clear hrow
        by_cases hlt : i < m
        · have hlt2 : (i : Int) < (m : Int) := by omega
          go_wp2_with (at_builtin; refine wpList_append_lies _ rfl (.tmp 19) (.tmp 20) 22 rfl base 3 i0 (.int .i64 0) 1 8 Try.underlying22 hi hz0 hz1 hz2 rfl (by decide) (.slice A4 L.length c4) L.length (bv L) rfl ?hown ⟨wr.heap.size, 0, none⟩ 1 1 [iv 0] rfl ?hl ?hnews ?h1 (by decide) ?h63 ?hby ?hbase (wr.heap.size + 1) ?hH ?rest)
          case hown => exact World.ownsRow.alloc Hrow.out.1 _
          case hl => rfl
          case hnews =>
            intro j u hu
            rw [Addr.add_lit]
            match j, hu with
            | 0, hu => simp at hu; subst hu; simp
          case h1 => intro u hu; simp at hu; subst hu; rfl
          case h63 => unfold maxLen; omega
          case hby => omega
          case hbase => simp; omega
          case hH => simp
          case rest =>
            intro g3 cap3 w3 hown3 hgr hat hlt3
            have Hm := Lib.hid (RowTo.more (m := [0]) Hrow.out hown3 hgr hat)
            clear hown3 hgr hat
            go_wp2
            go_roundw
            case rel =>
              refine ⟨i + 1, by omega, by go_num, ?_⟩
              have eL : l ++ List.replicate (i + 1) 0 = L ++ [0] := by rw [← HLe.out, List.append_assoc, show [0] = List.replicate 1 0 from rfl, List.replicate_append_replicate]
              rw [eL]
              exact Hm.out
            case measure => simp [intOf]; omega
        · obtain rfl : i = m := by omega
          go_wp2_with (at_builtin; refine wpList_append_lies _ rfl (.tmp 22) (.tmp 23) 22 rfl base 3 i0 (.int .i64 0) 1 8 Try.underlying22 hi hz0 hz1 hz2 rfl (by decide) (.slice A4 L.length c4) L.length (bv L) rfl ?hown ⟨wr.heap.size, 0, none⟩ 1 1 [iv 1] rfl ?hl ?hnews ?h1 (by decide) ?h63 ?hby ?hbase (wr.heap.size + 1) ?hH ?rest)
          case hown => exact World.ownsRow.alloc Hrow.out.1 _
          case hl => rfl
          case hnews =>
            intro j u hu
            rw [Addr.add_lit]
            match j, hu with
            | 0, hu => simp at hu; subst hu; simp
          case h1 => intro u hu; simp at hu; subst hu; rfl
          case h63 => unfold maxLen; omega
          case hby => omega
          case hbase => simp; omega
          case hH => simp
          case rest =>
            intro g3 cap3 w3 hown3 hgr hat hlt3
            have Hm := Lib.hid (RowTo.more (m := [1]) Hrow.out hown3 hgr hat)
            clear hown3 hgr hat
            go_wp2
            go_ret2
            refine ⟨_, rfl, ?_⟩
            rw [HLe.out]
            exact Hm.out

def refE (s : Bool) (n x : Int) : Int := if s = true then sgnE n x else putE n x
def refL (s : Bool) (l : List Nat) (n x : Int) : List Nat := if s = true then sgnL l n x else putL l n x
theorem ref_ok (s : Bool) (l : List Nat) (n : Nat) (x : Int) (hn : n ≤ 48) (h : refNum s (bitsN n (x % 2 ^ n).toNat) = x) : refE s (n : Int) x = 0 ∧ refL s l (n : Int) x = l ++ bitsN n (x % 2 ^ n).toNat := by
  unfold refE refL
  cases s
  · have h1 := (refNum_put n x).1 h
    have e : putE (n : Int) x = 0 := by unfold putE; rw [if_neg (by omega), Int.toNat_natCast, if_neg (by omega)]
    refine ⟨e, ?_⟩
    show putL l (n : Int) x = _
    unfold putL
    rw [if_pos e, Int.toNat_natCast, Int.emod_eq_of_lt h1.1 h1.2]
  · have h1 := (refNum_sgn n x).1 h
    have e : sgnE (n : Int) x = 0 := by unfold sgnE; rw [if_neg (by omega), Int.toNat_natCast, if_pos h1]
    refine ⟨e, ?_⟩
    show sgnL l (n : Int) x = _
    unfold sgnL
    rw [if_pos e, Int.toNat_natCast]
theorem ref_no (s : Bool) (l : List Nat) (n : Nat) (x : Int) (hn : n ≤ 48) (h : ¬ refNum s (bitsN n (x % 2 ^ n).toNat) = x) : refE s (n : Int) x = 10 ∧ refL s l (n : Int) x = l := by
  unfold refE refL
  cases s
  · have h1 := fun hh => h ((refNum_put n x).2 hh)
    have e : putE (n : Int) x = 10 := by unfold putE; rw [if_neg (by omega), Int.toNat_natCast, if_pos (by
      by_cases a : x < 0
      · exact .inl a
      · rcases Int.lt_or_le x (2 ^ n) with b | b
        · exact absurd ⟨by omega, b⟩ h1
        · exact .inr b)]
    exact ⟨e, by show putL l (n : Int) x = _; unfold putL; rw [e]; rfl⟩
  · have h1 := fun hh => h ((refNum_sgn n x).2 hh)
    have e : sgnE (n : Int) x = 10 := by unfold sgnE; rw [if_neg (by omega), Int.toNat_natCast, if_neg h1]
    exact ⟨e, by show sgnL l (n : Int) x = _; unfold sgnL; rw [e]; rfl⟩
theorem ref_arg (s : Bool) (l : List Nat) (n x : Int) (hn : n < 0 ∨ 48 < n) : refE s n x = 1 ∧ refL s l n x = l := by
  unfold refE refL
  cases s
  · have e : putE n x = 1 := by unfold putE; rw [if_pos hn]
    exact ⟨e, by show putL l n x = _; unfold putL; rw [e]; rfl⟩
  · have e : sgnE n x = 1 := by unfold sgnE; rw [if_pos hn]
    exact ⟨e, by show sgnL l n x = _; unfold sgnL; rw [e]; rfl⟩

theorem BitsIn.of_row {w : World} {base : Nat} {v : Value} {l : List Nat} (h : Bitrow w base v l) : BitsIn w v l := by
  rcases h.2 with ⟨rfl, hn⟩ | ⟨g, cap, cur, rfl, _, hg, _⟩
  · exact .inl ⟨none, 0, rfl, List.eq_nil_of_length_eq_zero hn⟩
  · refine .inr ⟨g, 0, cap, rfl, fun j hj => ?_⟩
    have h1 : w.ownsRow base 3 1 (.slice (some ⟨g, 0, none⟩) l.length cap) l.length (bv l) := h
    rw [Nat.zero_add, h1.cellAt j (by omega)]
    simp [bv, List.getElem?_eq_getElem hj]

def PutRel (w : World) (n U : Nat) (s10 s11 : Value) (wr : World) : Prop := ∃ j : Nat, j ≤ n ∧ s11 = iv ((n : Int) - 1 - (j : Int)) ∧ Bitrow wr w.heap.size s10 ((bitsN n U).take j) ∧ Only Nix w wr ∧ (j = 0 → s10 = .slice none 0 0)

set_option maxRecDepth 100000 in
set_option maxHeartbeats 1000000 in
theorem putRefW_any {w : World} {base : Nat} {v : Value} {l : List Nat} (s : Bool) (h : Bitrow w base v l) (hb : base ≤ w.heap.size) (hl : l.length ≤ 100000000) (n x : Int) :
    Calls Try.prog 32 #[v, .int .i64 n, .int .i64 x, .bool s] w fun e w' => ∃ v', e = .returned (.tuple #[v', .int .i64 (refE s n x)]) ∧ RowTo w base v v' (refL s l n x) w' := by
  obtain ⟨i0, hi, hz0, hz1, hz2⟩ := info_parts Try.info_int
  obtain ⟨A0, c0, hv0⟩ := owns_slice h
  subst hv0
  have H := Lib.hid (RowTo.same h)
  by_cases hn : n < 0 ∨ 48 < n
  · obtain ⟨e1, e2⟩ := ref_arg s l n x hn
    rw [e1, e2]
    clear e1 e2 h
    by_cases h0 : n < 0
    · have hd : decide (n < 0) = true := by simpa using h0
      go_enter Try.func32, Try.ntmps32
      go_wp2
      go_ret2
      exact ⟨_, rfl, H.out⟩
    · have hd : decide (n < 0) = false := by simpa using h0
      have hd2 : decide (48 < n) = true := by simp; omega
      go_enter Try.func32, Try.ntmps32
      go_wp2
      go_ret2
      exact ⟨_, rfl, H.out⟩
  · have hd : decide (n < 0) = false := by simp; omega
    have hd2 : decide (48 < n) = false := by simp; omega
    obtain ⟨m, rfl⟩ := Int.eq_ofNat_of_zero_le (show 0 ≤ n by omega)
    have hm : m ≤ 48 := by omega
    have HO := Lib.hid (ref_ok s l m x hm)
    have HN := Lib.hid (ref_no s l m x hm)
    have hU : Hid (∀ k, k < m → bits .and .i64 (x / 2 ^ k) 1 = (((x % 2 ^ m).toNat / 2 ^ k % 2 : Nat) : Int)) := fun k hk => bits_int x k m hk
    generalize (x % 2 ^ m).toNat = U at *
    have hbl := bitsN_len m U
    have Hbl := Lib.hid hbl
    have Hh := Lib.hid h
    clear hn h hbl
    go_enter Try.func32, Try.ntmps32
    go_wp2
    go_loopw [10, 11] (fun s10 s11 wr => PutRel w m U s10 s11 wr) (fun _ s11 _ => (intOf s11 + 1).toNat)
    case atStart => exact ⟨0, Nat.zero_le _, by simp, World.ownsRow_nil _ _ _ _, Only.refl _ _, fun _ => rfl⟩
    case round =>
      obtain ⟨j, hj, rfl, hrow, ho, hjn⟩ := hrel
      have hsz := ho.size
      obtain ⟨A4, c4, hv4⟩ := owns_slice hrow
      subst hv4
      have Hrow := Lib.hid hrow
      have Hjn := Lib.hid hjn
      clear hrow hjn
      by_cases hlt : j < m
      · obtain ⟨k, hk⟩ : ∃ k : Nat, (m : Int) - 1 - (j : Int) = (k : Int) ∧ k + j + 1 = m := ⟨m - 1 - j, by omega, by omega⟩
        rw [hk.1]
        have hge : (0 : Int) ≤ (k : Int) := by omega
        have hk48 : k ≤ 48 := by omega
        have Hk := Lib.hid hk
        clear hk
        generalize hTe : (bitsN m U).take j = T at *
        have hTl : T.length ≤ 48 := by rw [← hTe, List.length_take, Hbl.out]; omega
        have HTe := Lib.hid hTe
        clear hTe
        go_wp2_with (at_builtin; refine wpList_append_lies _ rfl (.tmp 25) (.tmp 30) 22 rfl w.heap.size 3 i0 (.int .i64 0) 1 8 Try.underlying22 hi hz0 hz1 hz2 rfl (by decide) (.slice A4 T.length c4) T.length (bv T) rfl ?hown ⟨wr.heap.size, 0, none⟩ 1 1 [.int .i64 (bits .and .i64 (x / 2 ^ k) 1)] rfl ?hl ?hnews ?h1 (by decide) ?h63 ?hby ?hbase (wr.heap.size + 1) ?hH ?rest)
        case hown => exact World.ownsRow.alloc Hrow.out _
        case hl => rfl
        case hnews =>
          intro j u hu
          rw [Addr.add_lit]
          match j, hu with
          | 0, hu => simp at hu; subst hu; simp
        case h1 => intro u hu; simp at hu; subst hu; rfl
        case h63 => unfold maxLen; omega
        case hby => omega
        case hbase => simp; omega
        case hH => simp
        case rest =>
          intro g3 cap3 w3 hown3 hgr hat hlt3
          have ho3 : Only Nix w w3 := (ho.alloc _).grown hgr (fun q e => .inr (World.ownsRow.lt Hrow.out q e).1)
          have Hown3 := Lib.hid hown3
          clear hown3 hgr hat
          go_wp2
          go_roundw
          case rel =>
            have hk := Hk.out
            refine ⟨j + 1, by omega, by go_num, ?_, ho3, fun e => by omega⟩
            have h9 := Hown3.out
            rw [hU.out k (by omega), show k = m - 1 - j from by omega] at h9
            unfold Bitrow
            rw [bitsN_snoc m U j hlt, HTe.out, bv_append, List.length_append]
            exact h9
          case measure => have := Hk.out; first | (simp [intOf]; done) | (simp [intOf]; omega)
      · obtain rfl : j = m := by omega
        have hneg : ¬ (0 : Int) ≤ (j : Int) - 1 - (j : Int) := by omega
        have hneg2 : decide ((0 : Int) ≤ (j : Int) - 1 - (j : Int)) = false := by simpa using hneg
        have hrow := Hrow.out
        rw [List.take_of_length_le (by rw [Hbl.out]; exact Nat.le_refl _)] at hrow
        have hnum := numberRef_any s (BitsIn.of_row hrow) (bitsN_le j U) (by rw [Hbl.out]; exact hm)
        rw [List.take_of_length_le (by rw [Hbl.out]; exact Nat.le_refl _)] at Hrow ⊢
        generalize bitsN j U = T at *
        have Hnum := Lib.hid hnum
        clear hnum hrow
        go_wp2_with fail
        refine (Hnum.out).mono ?_
        rintro e w5 ⟨rfl, rfl⟩
        by_cases hx : refNum s T = x
        · obtain ⟨e1, e2⟩ := HO.out hx
          have He := Lib.hid (And.intro e1 e2)
          have hxb : (refNum s T != x) = false := by rw [bne_eq_false_iff_eq]; exact hx
          clear e1 e2 HO HN hx
          have hR : RowTo w base (.slice A0 l.length c0) (.slice A0 l.length c0) l wr := ⟨owns_only Hh.out ho (fun _ _ e => e), ho.nix, Moves.refl _ _⟩
          have HR := Lib.hid hR
          clear hR
          rcases Nat.eq_zero_or_pos j with rfl | hjp
          · have hT0 : T = [] := List.eq_nil_of_length_eq_zero (by rw [Hbl.out])
            subst hT0
            have hvn := Hjn.out rfl
            injection hvn with hvn1 _ hvn2
            subst hvn1 hvn2
            go_wp2_with (at_builtin; refine wpList_append_own_none rfl (.tmp 38) (.tmp 39) 22 rfl base 3 i0 1 Try.underlying22 hi (.slice A0 l.length c0) l.length (bv l) rfl ?hownN rfl ?restN)
            case hownN => exact HR.out.1
            go_ret2
            rw [He.out.1, He.out.2, List.append_nil]
            exact ⟨_, rfl, HR.out⟩
          · obtain ⟨g4, rfl⟩ : ∃ g4, A4 = some ⟨g4, 0, none⟩ := by
              rcases Hrow.out.2 with ⟨_, hn0⟩ | ⟨g4, cap, cur, hv9, _⟩
              · have := Hbl.out; omega
              · injection hv9 with h8 _ _; exact ⟨g4, h8⟩
            have hTl := Hbl.out
            have hTl1 : T.length ≤ 48 := by omega
            have hTl2 : 0 < T.length := by omega
            clear hTl
            go_wp2_with (at_builtin; refine wpList_append_lies _ rfl (.tmp 38) (.tmp 39) 22 rfl base 3 i0 (.int .i64 0) 1 8 Try.underlying22 hi hz0 hz1 hz2 rfl (by decide) (.slice A0 l.length c0) l.length (bv l) rfl ?hownJ ⟨g4, 0, none⟩ T.length c4 (bv T) rfl ?hlJ ?hnewsJ ?h1J hTl2 ?h63J ?hbyJ ?hbaseJ wr.heap.size ?hHJ ?restJ)
            case hownJ => exact HR.out.1
            case hlJ => rw [bv_len]; omega
            case hnewsJ => exact World.ownsRow.cells Hrow.out (g := g4) rfl
            case h1J => intro u hu; obtain ⟨b, _, rfl⟩ := List.mem_map.1 hu; rfl
            case h63J => unfold maxLen; omega
            case hbyJ => omega
            case hbaseJ => omega
            case hHJ => rfl
            case restJ =>
              intro g3 cap3 w3 hown3 hgr hat hlt3
              have Hm := Lib.hid (RowTo.join (m := T) HR.out hown3 hgr hat)
              clear hown3 hgr hat
              go_wp2
              go_ret2
              rw [He.out.1, He.out.2]
              exact ⟨_, rfl, Hm.out⟩
        · obtain ⟨e1, e2⟩ := HN.out hx
          have He := Lib.hid (And.intro e1 e2)
          have hxb : (refNum s T != x) = true := by rw [bne_iff_ne]; exact hx
          clear e1 e2 HO HN hx
          go_wp2
          go_ret2
          rw [He.out.1, He.out.2]
          exact ⟨_, rfl, owns_only Hh.out ho (fun _ _ e => e), ho.nix, Moves.refl _ _⟩
end Go.Proofs.Ytliemhadgbjjiaa
