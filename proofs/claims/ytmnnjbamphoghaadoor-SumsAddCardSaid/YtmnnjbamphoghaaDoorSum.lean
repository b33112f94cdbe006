/-
  The method sum, with each of the functions that tell a byte's sum; Sum8, Sum16, Shift8, Shift16.
-/
import Derived.Test.YtmnnjbamphoghaaDoorBytes
namespace Go.Proofs.YtmnnjbamphoghaaDoor
open Go.RowKit

theorem and_all8 (s : Nat) (h : s < 256) : bits .and .i64 ((s : Int) * 256) 255 = ((s * 256 % 2 ^ 8 : Nat) : Int) := by
  have := i64_and_nat (s * 256) 255 (by omega) (by decide)
  rw [show (255 : Nat) = 2 ^ 8 - 1 from rfl, Nat.and_two_pow_sub_one_eq_mod] at this
  rw [← this, Int.natCast_mul]; rfl
theorem and_all16 (s : Nat) (h : s < 65536) : bits .and .i64 ((s : Int) * 256) 65535 = ((s * 256 % 2 ^ 16 : Nat) : Int) := by
  have := i64_and_nat (s * 256) 65535 (by omega) (by decide)
  rw [show (65535 : Nat) = 2 ^ 16 - 1 from rfl, Nat.and_two_pow_sub_one_eq_mod] at this
  rw [← this, Int.natCast_mul]; rfl
theorem outz8 (s x : Nat) (hs : s < 256) (hx : x < 256) : bits .xor .i64 ((s : Int)) (x : Int) = ((s / 2 ^ (8 - 8) ^^^ x : Nat) : Int) := by
  have e : ((s : Int)) = ((s / 2 ^ (8 - 8) : Nat) : Int) := by simp
  have h : s / 2 ^ (8 - 8) ≤ s := Nat.div_le_self _ _
  rw [e]
  exact i64_xor_nat _ _ (by omega) (by omega)
theorem stepz8 (s x : Nat) (hs : s < 256) (hx : x < 256) : bits .xor .i64 (bits .and .i64 ((s : Int) * 256) 255) ((nous 8 7 8 (s / 2 ^ (8 - 8) ^^^ x) : Nat) : Int) = ((stepS 8 7 s x : Nat) : Int) := by
  have hl : s / 2 ^ (8 - 8) < 2 ^ 8 := by simp; omega
  have hn : nous 8 7 8 (s / 2 ^ (8 - 8) ^^^ x) < 2 ^ 8 := nous_lt (by decide) _ _ (Nat.lt_of_lt_of_le (Nat.xor_lt_two_pow (n := 8) hl hx) (by decide))
  have hm : s * 256 % 2 ^ 8 < 2 ^ 8 := Nat.mod_lt _ (by decide)
  rw [and_all8 s hs, step_table (by decide) hs]
  exact i64_xor_nat _ _ (by omega) (by omega)
theorem outz16 (s x : Nat) (hs : s < 65536) (hx : x < 256) : bits .xor .i64 ((s : Int) / 256) (x : Int) = ((s / 2 ^ (16 - 8) ^^^ x : Nat) : Int) := by
  have e : ((s : Int) / 256) = ((s / 2 ^ (16 - 8) : Nat) : Int) := by simp
  have h : s / 2 ^ (16 - 8) ≤ s := Nat.div_le_self _ _
  rw [e]
  exact i64_xor_nat _ _ (by omega) (by omega)
theorem stepz16 (s x : Nat) (hs : s < 65536) (hx : x < 256) : bits .xor .i64 (bits .and .i64 ((s : Int) * 256) 65535) ((nous 16 32773 16 (s / 2 ^ (16 - 8) ^^^ x) : Nat) : Int) = ((stepS 16 32773 s x : Nat) : Int) := by
  have hl : s / 2 ^ (16 - 8) < 2 ^ 8 := by simp; omega
  have hn : nous 16 32773 16 (s / 2 ^ (16 - 8) ^^^ x) < 2 ^ 16 := nous_lt (by decide) _ _ (Nat.lt_of_lt_of_le (Nat.xor_lt_two_pow (n := 8) hl hx) (by decide))
  have hm : s * 256 % 2 ^ 16 < 2 ^ 16 := Nat.mod_lt _ (by decide)
  rw [and_all16 s hs, step_table (by decide) hs]
  exact i64_xor_nat _ _ (by omega) (by omega)
theorem flat_lt {w : World} {v : Value} {bss : List (List Nat)} (h : Lists w v bss) : ∀ x ∈ bss.flatten, x < 256 := by
  intro x hx
  obtain ⟨bs, hb, hx⟩ := List.mem_flatten.1 hx
  obtain ⟨j, hj, rfl⟩ := List.mem_iff_getElem.1 hb
  obtain ⟨A, c, hv, hc⟩ := h.form
  obtain ⟨ad, vj, _, _, hs⟩ := hc j hj
  exact hs.lt x hx
theorem flat_take {w : World} {v : Value} {bss : List (List Nat)} (h : Lists w v bss) (i : Nat) : ∀ x ∈ (bss.take i).flatten, x < 256 := by
  intro x hx
  refine flat_lt h x ?_
  obtain ⟨bs, hb, hx⟩ := List.mem_flatten.1 hx
  exact List.mem_flatten.2 ⟨bs, List.mem_of_mem_take hb, hx⟩
/-- the table of a Meter, which the variable at pl points to -/
structure MTab (w : World) (pl : Addr) (b off : Nat) : Prop where
  p : w.cell? pl = some (.pointer (some ⟨b, 0, none⟩))
  tab : ∀ k, k < 256 → w.cell? ⟨b, off + k, none⟩ = some (iv (nous 16 32773 16 k : Nat))
theorem MTab.nix {w w' : World} {pl : Addr} {b off : Nat} (h : MTab w pl b off) (ho : Only Nix w w') : MTab w' pl b off := ⟨cell_keep ho h.p, fun k hk => cell_keep ho (h.tab k hk)⟩

set_option maxHeartbeats 400000 in
theorem ofM {w : World} {pl : Addr} {b : Nat} (h : MTab w pl b 3) (z : Int) (v : Nat) (hz : z = (v : Int)) (hv : v < 256) :
    Calls Tryd.prog 29 #[iv z, .pointer (some pl)] w fun e w' => e = .returned (iv (nous 16 32773 16 v : Nat)) ∧ Only Nix w w' := by
  subst hz
  have h1 := h.p
  have h2 := h.tab v hv
  generalize nous 16 32773 16 v = X at *
  have i2 : 0 ≤ (v : Int) := by omega
  have i3 : (v : Int) < 256 := by omega
  go_enter Tryd.func29, Tryd.ntmps29
  go_wp2
  go_ret
  exact ⟨rfl, Only.refl _ _⟩

def Out8 (w : World) (bss : List (List Nat)) (s7 s20 : Value) (wr : World) : Prop :=
  ∃ i : Nat, i ≤ bss.length ∧ s20 = iv i ∧ s7 = iv (sm 8 7 (bss.take i).flatten : Nat) ∧ Only Nix w wr ∧ Box wr w.heap.size 44 #[iv 8, iv 7]
def In8 (w w1 : World) (t : Nat) (bs : List Nat) (s7 s26 : Value) (wr : World) : Prop :=
  ∃ k : Nat, k ≤ bs.length ∧ s26 = iv k ∧ s7 = iv (smFrom 8 7 t (bs.take k) : Nat) ∧ Only Nix w1 wr ∧ Box wr w.heap.size 44 #[iv 8, iv 7]

set_option maxHeartbeats 1000000 in
theorem sum8 {w : World} {v0 : Value} {bss : List (List Nat)} (hG : Laid w) (h : Lists w v0 bss) :
    Calls Tryd.prog 20 #[dv 8 7, v0, .func (.func 21) #[] #[]] w fun e w' => e = .returned (iv (sm 8 7 bss.flatten : Nat)) ∧ Only Nix w w' := by
  obtain ⟨A, c, hv⟩ := h.slice
  subst hv
  have hsm := h.small
  go_enter Tryd.func20, Tryd.ntmps20
  go_wp2
  go_quiet (fail)
  go_wp2
  go_loopw [7, 20] (fun s7 s20 wr => Out8 w bss s7 s20 wr) (fun _ s20 _ => bss.length - (intOf s20).toNat)
  case atStart => exact ⟨0, Nat.zero_le _, rfl, rfl, ((Only.refl _ _).alloc _).drewN _, (Box.new _ _ _).drewN _⟩
  case round =>
    obtain ⟨i, hi, rfl, rfl, ho, hB⟩ := hrel
    by_cases hlt : i < bss.length
    · obtain ⟨ad, A', c', e1, hx, hs⟩ := (h.nix ho).at_ hlt
      subst e1
      have hlt2 : (i : Int) < (bss.length : Int) := by omega
      have htl := sm_lt (n := 8) (r := 7) (by decide) (by decide) _ (flat_take h i)
      have hfl : Hid ((bss.take (i + 1)).flatten = (bss.take i).flatten ++ bss[i]) := by
        show _ = _
        rw [List.take_succ_eq_append_getElem hlt, List.flatten_append, List.flatten_singleton]
      have hS := hs
      have hsl := hs.small
      have HS := Lib.hid hS
      clear hS hs
      generalize bss[i] = bs at *
      generalize ht : sm 8 7 (bss.take i).flatten = t at *
      have HT := Lib.hid ht
      have HB := Lib.hid hB
      have HO := Lib.hid ho
      clear ht hB ho
      go_wp2
      generalize hW : wr = W1 at *
      clear hW
      go_loopw [7, 26] (fun s7 s26 wi => In8 w W1 t bs s7 s26 wi) (fun _ s26 _ => bs.length - (intOf s26).toNat)
      case atStart => exact ⟨0, Nat.zero_le _, rfl, rfl, Only.refl _ _, HB.out⟩
      case round =>
        obtain ⟨k, hk, rfl, rfl, ho2, hB2⟩ := hrel
        by_cases hkl : k < bs.length
        · obtain ⟨ad2, e2, hx2⟩ := (HS.out.nix ho2).at_ hkl
          subst e2
          unfold byt at hx2
          have hxl := HS.out.lt _ (List.getElem_mem hkl)
          have hkl2 : (k : Int) < (bs.length : Int) := by omega
          have hst : Hid (smFrom 8 7 t (bs.take (k + 1)) = stepS 8 7 (smFrom 8 7 t (bs.take k)) bs[k]) := by
            show _ = _
            rw [List.take_succ_eq_append_getElem hkl]
            unfold smFrom
            rw [List.foldl_append]
            rfl
          have hsl2 : smFrom 8 7 t (bs.take k) < 256 := by
            rw [smFrom_eq]
            exact Nat.xor_lt_two_pow (n := 8) (nous_lt (by decide) _ _ htl) (sm_lt (by decide) (by decide) _ (fun x hx => HS.out.lt x (List.mem_of_mem_take hx)))
          have c0 := hB2.cell 0
          have c1 := hB2.cell 1
          simp at c0 c1
          have HB2 := Lib.hid hB2
          clear hB2
          generalize bs[k] = x at *
          generalize smFrom 8 7 t (bs.take k) = s at *
          have hz : Hid (bits .xor .i64 ((s : Int)) (x : Int) = ((s / 2 ^ (8 - 8) ^^^ x : Nat) : Int)) := outz8 s x hsl2 hxl
          have hzz : Hid (_ = ((stepS 8 7 s x : Nat) : Int)) := stepz8 s x hsl2 hxl
          have hvl : s / 2 ^ (8 - 8) ^^^ x < 256 := Nat.xor_lt_two_pow (n := 8) (by simp; omega) hxl
          generalize s / 2 ^ (8 - 8) ^^^ x = q at hz hzz hvl
          have hG2 := Lib.hid ((hG.nix HO.out).nix ho2)
          go_wp2_with (go_at_call 21; refine (of8 hG2.out _ _ hz.out hvl).mono ?_; rintro e w' ⟨rfl, ho3⟩)
          go_roundw
          case rel => exact ⟨k + 1, by omega, by go_num, by rw [hst.out, ← hzz.out], ho2.trans ho3, HB2.out.only ho3 (fun e => e)⟩
          case measure => simp [intOf]; omega
        · obtain rfl : k = bs.length := by omega
          go_wp2
          go_roundw
          case rel => exact ⟨i + 1, by omega, by go_num, by rw [hfl.out, sm_append, HT.out, ← smFrom_eq, List.take_length], HO.out.trans ho2, hB2⟩
          case measure => simp [intOf]; omega
    · obtain rfl : i = bss.length := by omega
      rw [List.take_length] at *
      go_wp2
      go_ret
      exact ⟨rfl, ho⟩

def Out16 (w : World) (bss : List (List Nat)) (s7 s20 : Value) (wr : World) : Prop :=
  ∃ i : Nat, i ≤ bss.length ∧ s20 = iv i ∧ s7 = iv (sm 16 32773 (bss.take i).flatten : Nat) ∧ Only Nix w wr ∧ Box wr w.heap.size 44 #[iv 16, iv 32773]
def In16 (w w1 : World) (t : Nat) (bs : List Nat) (s7 s26 : Value) (wr : World) : Prop :=
  ∃ k : Nat, k ≤ bs.length ∧ s26 = iv k ∧ s7 = iv (smFrom 16 32773 t (bs.take k) : Nat) ∧ Only Nix w1 wr ∧ Box wr w.heap.size 44 #[iv 16, iv 32773]

set_option maxHeartbeats 1000000 in
theorem sum16 {w : World} {v0 : Value} {bss : List (List Nat)} (hG : Laid w) (h : Lists w v0 bss) :
    Calls Tryd.prog 20 #[dv 16 32773, v0, .func (.func 24) #[] #[]] w fun e w' => e = .returned (iv (sm 16 32773 bss.flatten : Nat)) ∧ Only Nix w w' := by
  obtain ⟨A, c, hv⟩ := h.slice
  subst hv
  have hsm := h.small
  go_enter Tryd.func20, Tryd.ntmps20
  go_wp2
  go_quiet (fail)
  go_wp2
  go_loopw [7, 20] (fun s7 s20 wr => Out16 w bss s7 s20 wr) (fun _ s20 _ => bss.length - (intOf s20).toNat)
  case atStart => exact ⟨0, Nat.zero_le _, rfl, rfl, ((Only.refl _ _).alloc _).drewN _, (Box.new _ _ _).drewN _⟩
  case round =>
    obtain ⟨i, hi, rfl, rfl, ho, hB⟩ := hrel
    by_cases hlt : i < bss.length
    · obtain ⟨ad, A', c', e1, hx, hs⟩ := (h.nix ho).at_ hlt
      subst e1
      have hlt2 : (i : Int) < (bss.length : Int) := by omega
      have htl := sm_lt (n := 16) (r := 32773) (by decide) (by decide) _ (flat_take h i)
      have hfl : Hid ((bss.take (i + 1)).flatten = (bss.take i).flatten ++ bss[i]) := by
        show _ = _
        rw [List.take_succ_eq_append_getElem hlt, List.flatten_append, List.flatten_singleton]
      have hS := hs
      have hsl := hs.small
      have HS := Lib.hid hS
      clear hS hs
      generalize bss[i] = bs at *
      generalize ht : sm 16 32773 (bss.take i).flatten = t at *
      have HT := Lib.hid ht
      have HB := Lib.hid hB
      have HO := Lib.hid ho
      clear ht hB ho
      go_wp2
      generalize hW : wr = W1 at *
      clear hW
      go_loopw [7, 26] (fun s7 s26 wi => In16 w W1 t bs s7 s26 wi) (fun _ s26 _ => bs.length - (intOf s26).toNat)
      case atStart => exact ⟨0, Nat.zero_le _, rfl, rfl, Only.refl _ _, HB.out⟩
      case round =>
        obtain ⟨k, hk, rfl, rfl, ho2, hB2⟩ := hrel
        by_cases hkl : k < bs.length
        · obtain ⟨ad2, e2, hx2⟩ := (HS.out.nix ho2).at_ hkl
          subst e2
          unfold byt at hx2
          have hxl := HS.out.lt _ (List.getElem_mem hkl)
          have hkl2 : (k : Int) < (bs.length : Int) := by omega
          have hst : Hid (smFrom 16 32773 t (bs.take (k + 1)) = stepS 16 32773 (smFrom 16 32773 t (bs.take k)) bs[k]) := by
            show _ = _
            rw [List.take_succ_eq_append_getElem hkl]
            unfold smFrom
            rw [List.foldl_append]
            rfl
          have hsl2 : smFrom 16 32773 t (bs.take k) < 65536 := by
            rw [smFrom_eq]
            exact Nat.xor_lt_two_pow (n := 16) (nous_lt (by decide) _ _ htl) (sm_lt (by decide) (by decide) _ (fun x hx => HS.out.lt x (List.mem_of_mem_take hx)))
          have c0 := hB2.cell 0
          have c1 := hB2.cell 1
          simp at c0 c1
          have HB2 := Lib.hid hB2
          clear hB2
          generalize bs[k] = x at *
          generalize smFrom 16 32773 t (bs.take k) = s at *
          have hz : Hid (bits .xor .i64 ((s : Int) / 256) (x : Int) = ((s / 2 ^ (16 - 8) ^^^ x : Nat) : Int)) := outz16 s x hsl2 hxl
          have hzz : Hid (_ = ((stepS 16 32773 s x : Nat) : Int)) := stepz16 s x hsl2 hxl
          have hvl : s / 2 ^ (16 - 8) ^^^ x < 256 := Nat.xor_lt_two_pow (n := 8) (by simp; omega) hxl
          generalize s / 2 ^ (16 - 8) ^^^ x = q at hz hzz hvl
          have hG2 := Lib.hid ((hG.nix HO.out).nix ho2)
          go_wp2_with (go_at_call 24; refine (of16 hG2.out _ _ hz.out hvl).mono ?_; rintro e w' ⟨rfl, ho3⟩)
          go_roundw
          case rel => exact ⟨k + 1, by omega, by go_num, by rw [hst.out, ← hzz.out], ho2.trans ho3, HB2.out.only ho3 (fun e => e)⟩
          case measure => simp [intOf]; omega
        · obtain rfl : k = bs.length := by omega
          go_wp2
          go_roundw
          case rel => exact ⟨i + 1, by omega, by go_num, by rw [hfl.out, sm_append, HT.out, ← smFrom_eq, List.take_length], HO.out.trans ho2, hB2⟩
          case measure => simp [intOf]; omega
    · obtain rfl : i = bss.length := by omega
      rw [List.take_length] at *
      go_wp2
      go_ret
      exact ⟨rfl, ho⟩

def OutM (w : World) (bss : List (List Nat)) (s7 s20 : Value) (wr : World) : Prop :=
  ∃ i : Nat, i ≤ bss.length ∧ s20 = iv i ∧ s7 = iv (sm 16 32773 (bss.take i).flatten : Nat) ∧ Only Nix w wr ∧ Box wr w.heap.size 44 #[iv 16, iv 32773]
def InM (w w1 : World) (t : Nat) (bs : List Nat) (s7 s26 : Value) (wr : World) : Prop :=
  ∃ k : Nat, k ≤ bs.length ∧ s26 = iv k ∧ s7 = iv (smFrom 16 32773 t (bs.take k) : Nat) ∧ Only Nix w1 wr ∧ Box wr w.heap.size 44 #[iv 16, iv 32773]

set_option maxHeartbeats 1000000 in
theorem sumM {w : World} {pl : Addr} {b : Nat} {v0 : Value} {bss : List (List Nat)} (hG : MTab w pl b 3) (h : Lists w v0 bss) :
    Calls Tryd.prog 20 #[dv 16 32773, v0, .func (.func 29) #[] #[.pointer (some pl)]] w fun e w' => e = .returned (iv (sm 16 32773 bss.flatten : Nat)) ∧ Only Nix w w' := by
  obtain ⟨A, c, hv⟩ := h.slice
  subst hv
  have hsm := h.small
  go_enter Tryd.func20, Tryd.ntmps20
  go_wp2
  go_quiet (fail)
  go_wp2
  go_loopw [7, 20] (fun s7 s20 wr => OutM w bss s7 s20 wr) (fun _ s20 _ => bss.length - (intOf s20).toNat)
  case atStart => exact ⟨0, Nat.zero_le _, rfl, rfl, ((Only.refl _ _).alloc _).drewN _, (Box.new _ _ _).drewN _⟩
  case round =>
    obtain ⟨i, hi, rfl, rfl, ho, hB⟩ := hrel
    by_cases hlt : i < bss.length
    · obtain ⟨ad, A', c', e1, hx, hs⟩ := (h.nix ho).at_ hlt
      subst e1
      have hlt2 : (i : Int) < (bss.length : Int) := by omega
      have htl := sm_lt (n := 16) (r := 32773) (by decide) (by decide) _ (flat_take h i)
      have hfl : Hid ((bss.take (i + 1)).flatten = (bss.take i).flatten ++ bss[i]) := by
        show _ = _
        rw [List.take_succ_eq_append_getElem hlt, List.flatten_append, List.flatten_singleton]
      have hS := hs
      have hsl := hs.small
      have HS := Lib.hid hS
      clear hS hs
      generalize bss[i] = bs at *
      generalize ht : sm 16 32773 (bss.take i).flatten = t at *
      have HT := Lib.hid ht
      have HB := Lib.hid hB
      have HO := Lib.hid ho
      clear ht hB ho
      go_wp2
      generalize hW : wr = W1 at *
      clear hW
      go_loopw [7, 26] (fun s7 s26 wi => InM w W1 t bs s7 s26 wi) (fun _ s26 _ => bs.length - (intOf s26).toNat)
      case atStart => exact ⟨0, Nat.zero_le _, rfl, rfl, Only.refl _ _, HB.out⟩
      case round =>
        obtain ⟨k, hk, rfl, rfl, ho2, hB2⟩ := hrel
        by_cases hkl : k < bs.length
        · obtain ⟨ad2, e2, hx2⟩ := (HS.out.nix ho2).at_ hkl
          subst e2
          unfold byt at hx2
          have hxl := HS.out.lt _ (List.getElem_mem hkl)
          have hkl2 : (k : Int) < (bs.length : Int) := by omega
          have hst : Hid (smFrom 16 32773 t (bs.take (k + 1)) = stepS 16 32773 (smFrom 16 32773 t (bs.take k)) bs[k]) := by
            show _ = _
            rw [List.take_succ_eq_append_getElem hkl]
            unfold smFrom
            rw [List.foldl_append]
            rfl
          have hsl2 : smFrom 16 32773 t (bs.take k) < 65536 := by
            rw [smFrom_eq]
            exact Nat.xor_lt_two_pow (n := 16) (nous_lt (by decide) _ _ htl) (sm_lt (by decide) (by decide) _ (fun x hx => HS.out.lt x (List.mem_of_mem_take hx)))
          have c0 := hB2.cell 0
          have c1 := hB2.cell 1
          simp at c0 c1
          have HB2 := Lib.hid hB2
          clear hB2
          generalize bs[k] = x at *
          generalize smFrom 16 32773 t (bs.take k) = s at *
          have hz : Hid (bits .xor .i64 ((s : Int) / 256) (x : Int) = ((s / 2 ^ (16 - 8) ^^^ x : Nat) : Int)) := outz16 s x hsl2 hxl
          have hzz : Hid (_ = ((stepS 16 32773 s x : Nat) : Int)) := stepz16 s x hsl2 hxl
          have hvl : s / 2 ^ (16 - 8) ^^^ x < 256 := Nat.xor_lt_two_pow (n := 8) (by simp; omega) hxl
          generalize s / 2 ^ (16 - 8) ^^^ x = q at hz hzz hvl
          have hG2 := Lib.hid ((hG.nix HO.out).nix ho2)
          go_wp2_with (go_at_call 29; refine (ofM hG2.out _ _ hz.out hvl).mono ?_; rintro e w' ⟨rfl, ho3⟩)
          go_roundw
          case rel => exact ⟨k + 1, by omega, by go_num, by rw [hst.out, ← hzz.out], ho2.trans ho3, HB2.out.only ho3 (fun e => e)⟩
          case measure => simp [intOf]; omega
        · obtain rfl : k = bs.length := by omega
          go_wp2
          go_roundw
          case rel => exact ⟨i + 1, by omega, by go_num, by rw [hfl.out, sm_append, HT.out, ← smFrom_eq, List.take_length], HO.out.trans ho2, hB2⟩
          case measure => simp [intOf]; omega
    · obtain rfl : i = bss.length := by omega
      rw [List.take_length] at *
      go_wp2
      go_ret
      exact ⟨rfl, ho⟩

set_option maxHeartbeats 400000 in
theorem Sum8_any {w : World} {v0 : Value} {bss : List (List Nat)} (hL : Laid w) (h : Lists w v0 bss) :
    Calls Tryd.prog 10 #[v0] w fun e w' => e = .returned (iv (sm 8 7 bss.flatten : Nat)) ∧ Only Nix w w' := by
  have H := Lib.hid (sum8 hL h)
  have h0 := hL.e0
  have h1 := hL.e1
  clear h
  generalize sm 8 7 bss.flatten = X at *
  go_enter Tryd.func10, Tryd.ntmps10
  go_wp2_with fail
  refine (H.out).mono ?_
  rintro e w' ⟨rfl, ho⟩
  go_wp2
  go_ret
  exact ⟨rfl, ho⟩
set_option maxHeartbeats 400000 in
theorem Sum16_any {w : World} {v0 : Value} {bss : List (List Nat)} (hL : Laid w) (h : Lists w v0 bss) :
    Calls Tryd.prog 12 #[v0] w fun e w' => e = .returned (iv (sm 16 32773 bss.flatten : Nat)) ∧ Only Nix w w' := by
  have H := Lib.hid (sum16 hL h)
  have h0 := hL.s0
  have h1 := hL.s1
  clear h
  generalize sm 16 32773 bss.flatten = X at *
  go_enter Tryd.func12, Tryd.ntmps12
  go_wp2_with fail
  refine (H.out).mono ?_
  rintro e w' ⟨rfl, ho⟩
  go_wp2
  go_ret
  exact ⟨rfl, ho⟩

set_option maxHeartbeats 400000 in
theorem Shift8_yes {w : World} (hL : Laid w) (s m : Nat) (hs : s < 256) (hm : m ≤ 1048576) :
    Calls Tryd.prog 14 #[iv (s : Int), iv (m : Int)] w fun e w' => e = .returned (.tuple #[iv (nous 8 7 m s : Nat), iv 0]) ∧ Only Nix w w' := by
  have H := Lib.hid (shift_8 s m w hs hm)
  have h0 := hL.e0
  have h1 := hL.e1
  generalize nous 8 7 m s = X at *
  go_enter Tryd.func14, Tryd.ntmps14
  go_wp2_with fail
  refine (H.out).mono ?_
  rintro e w' ⟨rfl, ho⟩
  go_wp2
  go_ret2
  exact ⟨rfl, ho⟩
set_option maxHeartbeats 400000 in
theorem Shift8_no {w : World} (hL : Laid w) (s m : Int) (h : s < 0 ∨ 256 ≤ s ∨ m < 0 ∨ 1048576 < m) :
    Calls Tryd.prog 14 #[iv s, iv m] w fun e w' => e = .returned (.tuple #[iv 0, iv 10]) ∧ Only Nix w w' := by
  have H := Lib.hid (shiftNo_8 s m w h)
  have h0 := hL.e0
  have h1 := hL.e1
  clear h
  go_enter Tryd.func14, Tryd.ntmps14
  go_wp2_with fail
  refine (H.out).mono ?_
  rintro e w' ⟨rfl, ho⟩
  go_wp2
  go_ret2
  exact ⟨rfl, ho⟩

set_option maxHeartbeats 400000 in
theorem Shift16_yes {w : World} (hL : Laid w) (s m : Nat) (hs : s < 65536) (hm : m ≤ 1048576) :
    Calls Tryd.prog 15 #[iv (s : Int), iv (m : Int)] w fun e w' => e = .returned (.tuple #[iv (nous 16 32773 m s : Nat), iv 0]) ∧ Only Nix w w' := by
  have H := Lib.hid (shift_16 s m w hs hm)
  have h0 := hL.s0
  have h1 := hL.s1
  generalize nous 16 32773 m s = X at *
  go_enter Tryd.func15, Tryd.ntmps15
  go_wp2_with fail
  refine (H.out).mono ?_
  rintro e w' ⟨rfl, ho⟩
  go_wp2
  go_ret2
  exact ⟨rfl, ho⟩
set_option maxHeartbeats 400000 in
theorem Shift16_no {w : World} (hL : Laid w) (s m : Int) (h : s < 0 ∨ 65536 ≤ s ∨ m < 0 ∨ 1048576 < m) :
    Calls Tryd.prog 15 #[iv s, iv m] w fun e w' => e = .returned (.tuple #[iv 0, iv 10]) ∧ Only Nix w w' := by
  have H := Lib.hid (shiftNo_16 s m w h)
  have h0 := hL.s0
  have h1 := hL.s1
  clear h
  go_enter Tryd.func15, Tryd.ntmps15
  go_wp2_with fail
  refine (H.out).mono ?_
  rintro e w' ⟨rfl, ho⟩
  go_wp2
  go_ret2
  exact ⟨rfl, ho⟩
end Go.Proofs.YtmnnjbamphoghaaDoor
