/-
  SumsAdd, walked.
-/
import Derived.Test.YtmnnjbamphoghaaDoorLSee
import Derived.Test.YtmnnjbamphoghaaDoorLTell
import Derived.Test.YtmnnjbamphoghaaDoorRel
import Derived.Deep.RegionLaw
import Derived.Deep.AppendLies
namespace Go.Proofs.YtmnnjbamphoghaaDoor
open Go.RowKit

/-- two texts, bit by bit added -/
def addB (a b : List Nat) : List Nat := List.zipWith (· ^^^ ·) a b
def AddRel (w : World) (a b : List Nat) (n : Nat) (s8 s9 : Value) (wr : World) : Prop :=
  ∃ i : Nat, i ≤ n ∧ s9 = iv i ∧ wr.ownsRow w.heap.size 5 1 s8 i ((addB (a.take i) (b.take i)).map byt) ∧ Only Nix w wr
/-- what is known of each value: which one it is, or which lists it holds -/
def Has (sp : List (Value ⊕ List (List Nat))) (i : Nat) (x : Value) (u : World) : Prop :=
  match sp[i]? with
  | some (.inl v) => x = v
  | some (.inr l) => Lists u x l
  | none => True
theorem Has.nix {sp : List (Value ⊕ List (List Nat))} {i : Nat} {x : Value} {u u' : World} (h : Has sp i x u) (ho : Only Nix u u') : Has sp i x u' := by
  unfold Has at *
  split
  · rename_i v e; rw [e] at h; exact h
  · rename_i l e; rw [e] at h; exact h.nix ho
  · trivial
theorem addB_lt (a b : List Nat) (ha : ∀ x ∈ a, x < 256) (hb : ∀ x ∈ b, x < 256) : ∀ x ∈ addB a b, x < 256 := by
  intro x hx
  obtain ⟨j, hj, rfl⟩ := List.mem_iff_getElem.1 hx
  simp only [addB, List.getElem_zipWith]
  exact Nat.xor_lt_two_pow (n := 8) (ha _ (List.getElem_mem _)) (hb _ (List.getElem_mem _))
theorem Src.of_owns {w : World} {base n : Nat} {v : Value} {bs : List Nat} (h : w.ownsRow base 5 1 v n (bs.map byt)) (hn : bs.length = n) (hs : bs.length ≤ 140737488355328) (hl : ∀ x ∈ bs, x < 256) : Src w v bs := by
  subst hn
  rcases h.2 with ⟨rfl, hn⟩ | ⟨g, cap, cur, rfl, hb, hg, rest⟩
  · obtain rfl := List.eq_nil_of_length_eq_zero hn
    exact Src.nil w
  · refine Src.of_cells rfl (fun j hj => ?_) hs hl
    rw [Nat.zero_add, h.cellAt j (by omega)]
    simp [hj]

set_option maxHeartbeats 1000000 in
set_option maxRecDepth 100000 in
theorem add_lt (A B : Option Addr) (c d : Nat) (a b : List Nat) (x y : Int) (w : World) (hL : Laid w) (ha : Src w (.slice A a.length c) a) (hb : Src w (.slice B b.length d) b) (hc : a.length ≤ c) (hd : b.length ≤ d)
    (hq : b.length < a.length) (h4 : b.length ≤ 400) :
    Calls Tryd.prog 8 #[.slice A a.length c, .slice B b.length d, .agg #[iv x, iv y]] w fun e w' => e = .returned (.bool true) ∧ Only Nix w w' := by
  have s1 := ha.small
  have s2 := hb.small
  have g4 : ¬ 400 < (b.length : Int) := by omega
  obtain ⟨i0, hi, hz0, hz1, hz2⟩ := info_parts Tryd.info_byte
  go_enter Tryd.func8, Tryd.ntmps8
  go_wp2
  have o0 := (Only.refl Nix w).alloc (.cells #[iv x, iv y] 41)
  have hk0 : (w.alloc (.cells #[iv x, iv y] 41)).cell? ⟨w.heap.size, 0, none⟩ = some (iv x) := by simp
  have hk1 : (w.alloc (.cells #[iv x, iv y] 41)).cell? ⟨w.heap.size, 1, none⟩ = some (iv y) := by simp
  generalize w.alloc (.cells #[iv x, iv y] 41) = W0 at *
  generalize w.heap.size = g0 at *
  go_loopw [8, 9] (fun s8 s9 wr => AddRel W0 a b b.length s8 s9 wr) (fun _ s9 _ => b.length - (intOf s9).toNat)
  case atStart => exact ⟨0, Nat.zero_le _, rfl, World.ownsRow_nil _ _ _ _, Only.refl _ _⟩
  case round =>
    obtain ⟨i, hin, rfl, hown, ho⟩ := hrel
    by_cases hlt : i < b.length
    · have hlt2 : (i : Int) < (b.length : Int) := by omega
      have l1 : i < a.length := by omega
      have l2 : i < b.length := by omega
      obtain ⟨ad, e1, hx⟩ := (ha.nix (o0.trans ho)).at_ l1
      obtain ⟨ad', e2, hx'⟩ := (hb.nix (o0.trans ho)).at_ l2
      subst e1 e2
      have x1 : a[i] < 256 := ha.lt _ (List.getElem_mem _)
      have x2 : b[i] < 256 := hb.lt _ (List.getElem_mem _)
      have hst : Hid (addB (a.take (i + 1)) (b.take (i + 1)) = addB (a.take i) (b.take i) ++ [a[i] ^^^ b[i]]) := by
        show _ = _
        unfold addB
        rw [List.take_succ_eq_append_getElem l1, List.take_succ_eq_append_getElem l2, List.zipWith_append (by simp; omega)]
        rfl
      unfold byt at hx hx'
      generalize a[i] = u at *
      generalize b[i] = v at *
      obtain ⟨A3, c3, hv3⟩ := owns_slice hown
      subst hv3
      have Hown := Lib.hid hown
      clear hown
      have i1 : (i : Int) < (a.length : Int) := by omega
      have i2 : (i : Int) < (b.length : Int) := by omega
      have hxr : Hid (bits .xor .u8 (u : Int) (v : Int) = ((u ^^^ v : Nat) : Int)) := u8_xor_nat u v x1 x2
      have Hw : Hid (((wr.alloc (.cells #[.int .u8 (bits .xor .u8 (u : Int) (v : Int))] 5)).drew).ownsRow W0.heap.size 5 1 (.slice A3 i c3) i ((addB (a.take i) (b.take i)).map byt)) := Hown.out.alloc _
      have Hn : Hid (∀ (j : Nat) (q : Value), [Value.int .u8 (bits .xor .u8 (u : Int) (v : Int))][j]? = some q → ((wr.alloc (.cells #[.int .u8 (bits .xor .u8 (u : Int) (v : Int))] 5)).drew).cell? (Addr.add ⟨wr.heap.size, 0, none⟩ j) = some q) := by
        show ∀ _, _
        intro j q hq
        rw [Addr.add_lit]
        match j, hq with
        | 0, hq => simp at hq; subst hq; simp
      have Hc : Hid (∀ q ∈ [Value.int .u8 (bits .xor .u8 (u : Int) (v : Int))], q.oneCell' = true) := by
        show ∀ _, _
        intro q hq; simp at hq; subst hq; rfl
      have Hm : Hid (i + 1 ≤ maxLen) := by show _ ≤ _; unfold maxLen; omega
      have Hb : Hid ((i + 1) * 1 ≤ 140737488355328) := by show _ ≤ _; omega
      have Hs : Hid (W0.heap.size ≤ ((wr.alloc (.cells #[.int .u8 (bits .xor .u8 (u : Int) (v : Int))] 5)).drew).heap.size) := by
        show _ ≤ _
        have := ho.size; simp; omega
      go_wp2_with fail
      go_region_law (refine step_append_lies _ rfl (.tmp 30) (.tmp 40) 22 rfl W0.heap.size 5 i0 (.int .u8 0) 1 1 Tryd.underlying22 hi hz0 hz1 hz2 rfl (by decide) (.slice A3 i c3) i ((addB (a.take i) (b.take i)).map byt) (by simp [Act.eval]) Hw.out ⟨wr.heap.size, 0, none⟩ 1 1 [.int .u8 (bits .xor .u8 (u : Int) (v : Int))] (by simp [Act.eval]) rfl Hn.out Hc.out (by decide) Hm.out Hb.out Hs.out _ rfl ?_; intro g cap w3 hown3 hgr hg3 hgl; have HM := Lib.hid (And.intro hown3 hgr); clear hown3 hgr hg3 hgl)
      all_goals
        have ho3 : Only Nix W0 w3 := ((ho.alloc _).drew).grown HM.out.2 (fun k e => .inr (Hown.out.lt k e).1)
        go_wp2
        go_roundw
        case rel =>
          refine ⟨i + 1, by omega, by go_num, ?_, ho3⟩
          have h3 := HM.out.1
          rw [hst.out, List.map_append]
          rw [hxr.out] at h3
          exact h3
        case measure => simp [intOf]; omega
    · obtain rfl : i = b.length := by omega
      have hge0 : ¬ (b.length : Int) < (b.length : Int) := by omega
      have l1 : b.length ≤ a.length := by omega
      have l2 : b.length ≤ b.length := by omega
      have hCl : (addB (a.take b.length) (b.take b.length)).length = b.length := by simp [addB]; omega
      obtain ⟨A4, c4, hv4⟩ := owns_slice hown
      subst hv4
      have hC : Src wr (.slice A4 b.length c4) (addB (a.take b.length) (b.take b.length)) := Src.of_owns hown hCl (by omega) (addB_lt _ _ (fun x hx => ha.lt x (List.mem_of_mem_take hx)) (fun x hx => hb.lt x (List.mem_of_mem_take hx)))
      clear hown
      have oW := o0.trans ho
      have hA := (ha.nix oW).take b.length l1 c
      have hB := (hb.nix oW).take b.length l2 d
      have hL3 := hL.nix oW
      have i1 : (b.length : Int) ≤ (a.length : Int) := by omega
      have i2 : (b.length : Int) ≤ (b.length : Int) := by omega
      have i3 : (b.length : Int) ≤ (c : Int) := by omega
      have i4 : (b.length : Int) ≤ (d : Int) := by omega
      have lx : ∀ f g, f < 2 ^ 17 → g < 2 ^ 17 → bits .xor .i64 ((f : Nat) : Int) ((g : Nat) : Int) = ((f ^^^ g : Nat) : Int) := fun f g hf hg => i64_xor_nat f g (by omega) (by omega)
      have za : (a.take b.length).length = (b.take b.length).length := by simp; omega
      have X8 : Hid (bits .xor .i64 ((sm 8 7 (a.take b.length) : Nat) : Int) ((sm 8 7 (b.take b.length) : Nat) : Int) = ((sm 8 7 (addB (a.take b.length) (b.take b.length)) : Nat) : Int)) := by
        show _ = _
        have h1 : sm 8 7 (a.take b.length) < 2 ^ 8 := sm_lt (by decide) (by decide) _ hA.lt
        have h2 : sm 8 7 (b.take b.length) < 2 ^ 8 := sm_lt (by decide) (by decide) _ hB.lt
        rw [lx _ _ (by omega) (by omega)]
        unfold addB
        rw [sm_zip _ _ _ _ za]
      have X16 : Hid (bits .xor .i64 ((sm 16 32773 (a.take b.length) : Nat) : Int) ((sm 16 32773 (b.take b.length) : Nat) : Int) = ((sm 16 32773 (addB (a.take b.length) (b.take b.length)) : Nat) : Int)) := by
        show _ = _
        have h1 : sm 16 32773 (a.take b.length) < 2 ^ 16 := sm_lt (by decide) (by decide) _ hA.lt
        have h2 : sm 16 32773 (b.take b.length) < 2 ^ 16 := sm_lt (by decide) (by decide) _ hB.lt
        rw [lx _ _ (by omega) (by omega)]
        unfold addB
        rw [sm_zip _ _ _ _ za]
      clear lx za hlt hCl
      generalize addB (a.take b.length) (b.take b.length) = C1 at *
      generalize a.take b.length = a1 at *
      generalize b.take b.length = b1 at *
      go_wp2_with fail
      refine region_by (by kernel_rfl) (fun i => 42 + i) (Has [.inl (.slice A4 b.length c4), .inr [C1], .inl (iv (sm 8 7 C1 : Nat)), .inl (.slice A a.length c), .inl (iv (b.length : Int)), .inl (.slice A b.length c), .inr [a1], .inl (iv (sm 8 7 a1 : Nat)), .inl (.slice B b.length d), .inl (iv (b.length : Int)), .inl (.slice B b.length d), .inr [b1], .inl (iv (sm 8 7 b1 : Nat)), .inl (iv (sm 8 7 C1 : Nat)), .inl (.bool false), .inl (.bool false), .inl (.slice A4 b.length c4), .inr [C1], .inl (iv (sm 16 32773 C1 : Nat)), .inl (.slice A a.length c), .inl (iv (b.length : Int)), .inl (.slice A b.length c), .inr [a1], .inl (iv (sm 16 32773 a1 : Nat)), .inl (.slice B b.length d), .inl (iv (b.length : Int)), .inl (.slice B b.length d), .inr [b1], .inl (iv (sm 16 32773 b1 : Nat)), .inl (iv (sm 16 32773 C1 : Nat)), .inl (.bool false), .inl (.bool false)]) (fun i x u u' hx hu => hx.nix hu) (by kernel_rfl) (fun i j _ _ hij => by have h9 : 42 + i = 42 + j := hij; omega) (fun i hi => by have h9 : i < 32 := hi; show 42 + i < 145; omega) (by kernel_rfl) [42, 43, 44, 45, 46, 47, 48, 49, 50, 51, 52, 53, 54, 55, 56, 57, 58, 59, 60, 61, 62, 63, 64, 65, 66, 67, 68, 69, 70, 71, 72, 73] (by kernel_rfl) ?steps ?done
      case steps =>
        refine ⟨?_, ?_, ?_, ?_, ?_, ?_, ?_, ?_, ?_, ?_, ?_, ?_, ?_, ?_, ?_, ?_, ?_, ?_, ?_, ?_, ?_, ?_, ?_, ?_, ?_, ?_, ?_, ?_, ?_, ?_, ?_, ?_, trivial⟩
        · intro A' u hW hn K' hK
          have r8 : A'.tmps[8]? = some (.slice A4 b.length c4) := (hW.out 8 (fun j _ => by show 42 + j ≠ 8; omega)).trans rfl
          go_simp
          exact hK _ _ (Only.refl _ _) rfl
        · intro A' u hW hn K' hK
          have r42 : A'.tmps[42]? = some (.slice A4 b.length c4) := by have h := hn 0 (by kernel_rfl); have q : A'.tmps.getD 42 undef = (.slice A4 b.length c4) := h.2; rw [← q]; exact h.1
          go_simp
          exact hK _ _ ((Only.refl _ _).alloc _) (lists1 (hC.nix hW.only) 22)
        · intro A' u hW hn K' hK
          have hr := (hn 1 (by kernel_rfl)).1
          have hq := (hn 1 (by kernel_rfl)).2
          have hl : Lists u (A'.tmps.getD 43 undef) [C1] := hq
          have r43 : A'.tmps[43]? = some (A'.tmps.getD 43 undef) := hr
          generalize A'.tmps.getD 43 undef = p at *
          clear hr hq
          have hc := Sum8_any (hL3.nix hW.only) hl
          rw [List.flatten_singleton] at hc
          have HC := Lib.hid hc
          clear hc hl
          go_simp
          refine (HC.out).mono ?_
          rintro e u' ⟨rfl, ho'⟩
          exact hK _ _ ho' rfl
        · intro A' u hW hn K' hK
          have r0 : A'.tmps[0]? = some (.slice A a.length c) := (hW.out 0 (fun j _ => by show 42 + j ≠ 0; omega)).trans rfl
          go_simp
          exact hK _ _ (Only.refl _ _) rfl
        · intro A' u hW hn K' hK
          have r7 : A'.tmps[7]? = some (iv (b.length : Int)) := (hW.out 7 (fun j _ => by show 42 + j ≠ 7; omega)).trans rfl
          go_simp
          exact hK _ _ (Only.refl _ _) rfl
        · intro A' u hW hn K' hK
          have r45 : A'.tmps[45]? = some (.slice A a.length c) := by have h := hn 3 (by kernel_rfl); have q : A'.tmps.getD 45 undef = (.slice A a.length c) := h.2; rw [← q]; exact h.1
          have r46 : A'.tmps[46]? = some (iv (b.length : Int)) := by have h := hn 4 (by kernel_rfl); have q : A'.tmps.getD 46 undef = (iv (b.length : Int)) := h.2; rw [← q]; exact h.1
          go_simp
          exact hK _ _ (Only.refl _ _) rfl
        · intro A' u hW hn K' hK
          have r47 : A'.tmps[47]? = some (.slice A b.length c) := by have h := hn 5 (by kernel_rfl); have q : A'.tmps.getD 47 undef = (.slice A b.length c) := h.2; rw [← q]; exact h.1
          go_simp
          exact hK _ _ ((Only.refl _ _).alloc _) (lists1 (hA.nix hW.only) 22)
        · intro A' u hW hn K' hK
          have hr := (hn 6 (by kernel_rfl)).1
          have hq := (hn 6 (by kernel_rfl)).2
          have hl : Lists u (A'.tmps.getD 48 undef) [a1] := hq
          have r48 : A'.tmps[48]? = some (A'.tmps.getD 48 undef) := hr
          generalize A'.tmps.getD 48 undef = p at *
          clear hr hq
          have hc := Sum8_any (hL3.nix hW.only) hl
          rw [List.flatten_singleton] at hc
          have HC := Lib.hid hc
          clear hc hl
          go_simp
          refine (HC.out).mono ?_
          rintro e u' ⟨rfl, ho'⟩
          exact hK _ _ ho' rfl
        · intro A' u hW hn K' hK
          have r1 : A'.tmps[1]? = some (.slice B b.length d) := (hW.out 1 (fun j _ => by show 42 + j ≠ 1; omega)).trans rfl
          go_simp
          exact hK _ _ (Only.refl _ _) rfl
        · intro A' u hW hn K' hK
          have r7 : A'.tmps[7]? = some (iv (b.length : Int)) := (hW.out 7 (fun j _ => by show 42 + j ≠ 7; omega)).trans rfl
          go_simp
          exact hK _ _ (Only.refl _ _) rfl
        · intro A' u hW hn K' hK
          have r50 : A'.tmps[50]? = some (.slice B b.length d) := by have h := hn 8 (by kernel_rfl); have q : A'.tmps.getD 50 undef = (.slice B b.length d) := h.2; rw [← q]; exact h.1
          have r51 : A'.tmps[51]? = some (iv (b.length : Int)) := by have h := hn 9 (by kernel_rfl); have q : A'.tmps.getD 51 undef = (iv (b.length : Int)) := h.2; rw [← q]; exact h.1
          go_simp
          exact hK _ _ (Only.refl _ _) rfl
        · intro A' u hW hn K' hK
          have r52 : A'.tmps[52]? = some (.slice B b.length d) := by have h := hn 10 (by kernel_rfl); have q : A'.tmps.getD 52 undef = (.slice B b.length d) := h.2; rw [← q]; exact h.1
          go_simp
          exact hK _ _ ((Only.refl _ _).alloc _) (lists1 (hB.nix hW.only) 22)
        · intro A' u hW hn K' hK
          have hr := (hn 11 (by kernel_rfl)).1
          have hq := (hn 11 (by kernel_rfl)).2
          have hl : Lists u (A'.tmps.getD 53 undef) [b1] := hq
          have r53 : A'.tmps[53]? = some (A'.tmps.getD 53 undef) := hr
          generalize A'.tmps.getD 53 undef = p at *
          clear hr hq
          have hc := Sum8_any (hL3.nix hW.only) hl
          rw [List.flatten_singleton] at hc
          have HC := Lib.hid hc
          clear hc hl
          go_simp
          refine (HC.out).mono ?_
          rintro e u' ⟨rfl, ho'⟩
          exact hK _ _ ho' rfl
        · intro A' u hW hn K' hK
          have r49 : A'.tmps[49]? = some (iv (sm 8 7 a1 : Nat)) := by have h := hn 7 (by kernel_rfl); have q : A'.tmps.getD 49 undef = (iv (sm 8 7 a1 : Nat)) := h.2; rw [← q]; exact h.1
          have r54 : A'.tmps[54]? = some (iv (sm 8 7 b1 : Nat)) := by have h := hn 12 (by kernel_rfl); have q : A'.tmps.getD 54 undef = (iv (sm 8 7 b1 : Nat)) := h.2; rw [← q]; exact h.1
          go_simp
          exact hK _ _ (Only.refl _ _) (congrArg iv X8.out)
        · intro A' u hW hn K' hK
          have r44 : A'.tmps[44]? = some (iv (sm 8 7 C1 : Nat)) := by have h := hn 2 (by kernel_rfl); have q : A'.tmps.getD 44 undef = (iv (sm 8 7 C1 : Nat)) := h.2; rw [← q]; exact h.1
          have r55 : A'.tmps[55]? = some (iv (sm 8 7 C1 : Nat)) := by have h := hn 13 (by kernel_rfl); have q : A'.tmps.getD 55 undef = (iv (sm 8 7 C1 : Nat)) := h.2; rw [← q]; exact h.1
          go_simp
          exact hK _ _ (Only.refl _ _) rfl
        · intro A' u hW hn K' hK
          have r56 : A'.tmps[56]? = some (.bool false) := by have h := hn 14 (by kernel_rfl); have q : A'.tmps.getD 56 undef = (.bool false) := h.2; rw [← q]; exact h.1
          go_simp
          exact hK _ _ (Only.refl _ _) rfl
        · intro A' u hW hn K' hK
          have r57 : A'.tmps[57]? = some (.bool false) := by have h := hn 15 (by kernel_rfl); have q : A'.tmps.getD 57 undef = (.bool false) := h.2; rw [← q]; exact h.1
          have r8 : A'.tmps[8]? = some (.slice A4 b.length c4) := (hW.out 8 (fun j _ => by show 42 + j ≠ 8; omega)).trans rfl
          go_simp
          exact hK _ _ (Only.refl _ _) rfl
        · intro A' u hW hn K' hK
          have r57 : A'.tmps[57]? = some (.bool false) := by have h := hn 15 (by kernel_rfl); have q : A'.tmps.getD 57 undef = (.bool false) := h.2; rw [← q]; exact h.1
          have r58 : A'.tmps[58]? = some (.slice A4 b.length c4) := by have h := hn 16 (by kernel_rfl); have q : A'.tmps.getD 58 undef = (.slice A4 b.length c4) := h.2; rw [← q]; exact h.1
          go_simp
          exact hK _ _ ((Only.refl _ _).alloc _) (lists1 (hC.nix hW.only) 22)
        · intro A' u hW hn K' hK
          have r57 : A'.tmps[57]? = some (.bool false) := by have h := hn 15 (by kernel_rfl); have q : A'.tmps.getD 57 undef = (.bool false) := h.2; rw [← q]; exact h.1
          have hr := (hn 17 (by kernel_rfl)).1
          have hq := (hn 17 (by kernel_rfl)).2
          have hl : Lists u (A'.tmps.getD 59 undef) [C1] := hq
          have r59 : A'.tmps[59]? = some (A'.tmps.getD 59 undef) := hr
          generalize A'.tmps.getD 59 undef = p at *
          clear hr hq
          have hc := Sum16_any (hL3.nix hW.only) hl
          rw [List.flatten_singleton] at hc
          have HC := Lib.hid hc
          clear hc hl
          go_simp
          refine (HC.out).mono ?_
          rintro e u' ⟨rfl, ho'⟩
          exact hK _ _ ho' rfl
        · intro A' u hW hn K' hK
          have r57 : A'.tmps[57]? = some (.bool false) := by have h := hn 15 (by kernel_rfl); have q : A'.tmps.getD 57 undef = (.bool false) := h.2; rw [← q]; exact h.1
          have r0 : A'.tmps[0]? = some (.slice A a.length c) := (hW.out 0 (fun j _ => by show 42 + j ≠ 0; omega)).trans rfl
          go_simp
          exact hK _ _ (Only.refl _ _) rfl
        · intro A' u hW hn K' hK
          have r57 : A'.tmps[57]? = some (.bool false) := by have h := hn 15 (by kernel_rfl); have q : A'.tmps.getD 57 undef = (.bool false) := h.2; rw [← q]; exact h.1
          have r7 : A'.tmps[7]? = some (iv (b.length : Int)) := (hW.out 7 (fun j _ => by show 42 + j ≠ 7; omega)).trans rfl
          go_simp
          exact hK _ _ (Only.refl _ _) rfl
        · intro A' u hW hn K' hK
          have r57 : A'.tmps[57]? = some (.bool false) := by have h := hn 15 (by kernel_rfl); have q : A'.tmps.getD 57 undef = (.bool false) := h.2; rw [← q]; exact h.1
          have r61 : A'.tmps[61]? = some (.slice A a.length c) := by have h := hn 19 (by kernel_rfl); have q : A'.tmps.getD 61 undef = (.slice A a.length c) := h.2; rw [← q]; exact h.1
          have r62 : A'.tmps[62]? = some (iv (b.length : Int)) := by have h := hn 20 (by kernel_rfl); have q : A'.tmps.getD 62 undef = (iv (b.length : Int)) := h.2; rw [← q]; exact h.1
          go_simp
          exact hK _ _ (Only.refl _ _) rfl
        · intro A' u hW hn K' hK
          have r57 : A'.tmps[57]? = some (.bool false) := by have h := hn 15 (by kernel_rfl); have q : A'.tmps.getD 57 undef = (.bool false) := h.2; rw [← q]; exact h.1
          have r63 : A'.tmps[63]? = some (.slice A b.length c) := by have h := hn 21 (by kernel_rfl); have q : A'.tmps.getD 63 undef = (.slice A b.length c) := h.2; rw [← q]; exact h.1
          go_simp
          exact hK _ _ ((Only.refl _ _).alloc _) (lists1 (hA.nix hW.only) 22)
        · intro A' u hW hn K' hK
          have r57 : A'.tmps[57]? = some (.bool false) := by have h := hn 15 (by kernel_rfl); have q : A'.tmps.getD 57 undef = (.bool false) := h.2; rw [← q]; exact h.1
          have hr := (hn 22 (by kernel_rfl)).1
          have hq := (hn 22 (by kernel_rfl)).2
          have hl : Lists u (A'.tmps.getD 64 undef) [a1] := hq
          have r64 : A'.tmps[64]? = some (A'.tmps.getD 64 undef) := hr
          generalize A'.tmps.getD 64 undef = p at *
          clear hr hq
          have hc := Sum16_any (hL3.nix hW.only) hl
          rw [List.flatten_singleton] at hc
          have HC := Lib.hid hc
          clear hc hl
          go_simp
          refine (HC.out).mono ?_
          rintro e u' ⟨rfl, ho'⟩
          exact hK _ _ ho' rfl
        · intro A' u hW hn K' hK
          have r57 : A'.tmps[57]? = some (.bool false) := by have h := hn 15 (by kernel_rfl); have q : A'.tmps.getD 57 undef = (.bool false) := h.2; rw [← q]; exact h.1
          have r1 : A'.tmps[1]? = some (.slice B b.length d) := (hW.out 1 (fun j _ => by show 42 + j ≠ 1; omega)).trans rfl
          go_simp
          exact hK _ _ (Only.refl _ _) rfl
        · intro A' u hW hn K' hK
          have r57 : A'.tmps[57]? = some (.bool false) := by have h := hn 15 (by kernel_rfl); have q : A'.tmps.getD 57 undef = (.bool false) := h.2; rw [← q]; exact h.1
          have r7 : A'.tmps[7]? = some (iv (b.length : Int)) := (hW.out 7 (fun j _ => by show 42 + j ≠ 7; omega)).trans rfl
          go_simp
          exact hK _ _ (Only.refl _ _) rfl
        · intro A' u hW hn K' hK
          have r57 : A'.tmps[57]? = some (.bool false) := by have h := hn 15 (by kernel_rfl); have q : A'.tmps.getD 57 undef = (.bool false) := h.2; rw [← q]; exact h.1
          have r66 : A'.tmps[66]? = some (.slice B b.length d) := by have h := hn 24 (by kernel_rfl); have q : A'.tmps.getD 66 undef = (.slice B b.length d) := h.2; rw [← q]; exact h.1
          have r67 : A'.tmps[67]? = some (iv (b.length : Int)) := by have h := hn 25 (by kernel_rfl); have q : A'.tmps.getD 67 undef = (iv (b.length : Int)) := h.2; rw [← q]; exact h.1
          go_simp
          exact hK _ _ (Only.refl _ _) rfl
        · intro A' u hW hn K' hK
          have r57 : A'.tmps[57]? = some (.bool false) := by have h := hn 15 (by kernel_rfl); have q : A'.tmps.getD 57 undef = (.bool false) := h.2; rw [← q]; exact h.1
          have r68 : A'.tmps[68]? = some (.slice B b.length d) := by have h := hn 26 (by kernel_rfl); have q : A'.tmps.getD 68 undef = (.slice B b.length d) := h.2; rw [← q]; exact h.1
          go_simp
          exact hK _ _ ((Only.refl _ _).alloc _) (lists1 (hB.nix hW.only) 22)
        · intro A' u hW hn K' hK
          have r57 : A'.tmps[57]? = some (.bool false) := by have h := hn 15 (by kernel_rfl); have q : A'.tmps.getD 57 undef = (.bool false) := h.2; rw [← q]; exact h.1
          have hr := (hn 27 (by kernel_rfl)).1
          have hq := (hn 27 (by kernel_rfl)).2
          have hl : Lists u (A'.tmps.getD 69 undef) [b1] := hq
          have r69 : A'.tmps[69]? = some (A'.tmps.getD 69 undef) := hr
          generalize A'.tmps.getD 69 undef = p at *
          clear hr hq
          have hc := Sum16_any (hL3.nix hW.only) hl
          rw [List.flatten_singleton] at hc
          have HC := Lib.hid hc
          clear hc hl
          go_simp
          refine (HC.out).mono ?_
          rintro e u' ⟨rfl, ho'⟩
          exact hK _ _ ho' rfl
        · intro A' u hW hn K' hK
          have r57 : A'.tmps[57]? = some (.bool false) := by have h := hn 15 (by kernel_rfl); have q : A'.tmps.getD 57 undef = (.bool false) := h.2; rw [← q]; exact h.1
          have r65 : A'.tmps[65]? = some (iv (sm 16 32773 a1 : Nat)) := by have h := hn 23 (by kernel_rfl); have q : A'.tmps.getD 65 undef = (iv (sm 16 32773 a1 : Nat)) := h.2; rw [← q]; exact h.1
          have r70 : A'.tmps[70]? = some (iv (sm 16 32773 b1 : Nat)) := by have h := hn 28 (by kernel_rfl); have q : A'.tmps.getD 70 undef = (iv (sm 16 32773 b1 : Nat)) := h.2; rw [← q]; exact h.1
          go_simp
          exact hK _ _ (Only.refl _ _) (congrArg iv X16.out)
        · intro A' u hW hn K' hK
          have r57 : A'.tmps[57]? = some (.bool false) := by have h := hn 15 (by kernel_rfl); have q : A'.tmps.getD 57 undef = (.bool false) := h.2; rw [← q]; exact h.1
          have r60 : A'.tmps[60]? = some (iv (sm 16 32773 C1 : Nat)) := by have h := hn 18 (by kernel_rfl); have q : A'.tmps.getD 60 undef = (iv (sm 16 32773 C1 : Nat)) := h.2; rw [← q]; exact h.1
          have r71 : A'.tmps[71]? = some (iv (sm 16 32773 C1 : Nat)) := by have h := hn 29 (by kernel_rfl); have q : A'.tmps.getD 71 undef = (iv (sm 16 32773 C1 : Nat)) := h.2; rw [← q]; exact h.1
          go_simp
          exact hK _ _ (Only.refl _ _) rfl
        · intro A' u hW hn K' hK
          have r57 : A'.tmps[57]? = some (.bool false) := by have h := hn 15 (by kernel_rfl); have q : A'.tmps.getD 57 undef = (.bool false) := h.2; rw [← q]; exact h.1
          have r72 : A'.tmps[72]? = some (.bool false) := by have h := hn 30 (by kernel_rfl); have q : A'.tmps.getD 72 undef = (.bool false) := h.2; rw [← q]; exact h.1
          go_simp
          exact hK _ _ (Only.refl _ _) rfl
      case done =>
        intro f w5 o5 hall
        have q42 : f 42 = (.slice A4 b.length c4) := hall 0 (by decide)
        have q44 : f 44 = (iv (sm 8 7 C1 : Nat)) := hall 2 (by decide)
        have q45 : f 45 = (.slice A a.length c) := hall 3 (by decide)
        have q46 : f 46 = (iv (b.length : Int)) := hall 4 (by decide)
        have q47 : f 47 = (.slice A b.length c) := hall 5 (by decide)
        have q49 : f 49 = (iv (sm 8 7 a1 : Nat)) := hall 7 (by decide)
        have q50 : f 50 = (.slice B b.length d) := hall 8 (by decide)
        have q51 : f 51 = (iv (b.length : Int)) := hall 9 (by decide)
        have q52 : f 52 = (.slice B b.length d) := hall 10 (by decide)
        have q54 : f 54 = (iv (sm 8 7 b1 : Nat)) := hall 12 (by decide)
        have q55 : f 55 = (iv (sm 8 7 C1 : Nat)) := hall 13 (by decide)
        have q56 : f 56 = (.bool false) := hall 14 (by decide)
        have q57 : f 57 = (.bool false) := hall 15 (by decide)
        have q58 : f 58 = (.slice A4 b.length c4) := hall 16 (by decide)
        have q60 : f 60 = (iv (sm 16 32773 C1 : Nat)) := hall 18 (by decide)
        have q61 : f 61 = (.slice A a.length c) := hall 19 (by decide)
        have q62 : f 62 = (iv (b.length : Int)) := hall 20 (by decide)
        have q63 : f 63 = (.slice A b.length c) := hall 21 (by decide)
        have q65 : f 65 = (iv (sm 16 32773 a1 : Nat)) := hall 23 (by decide)
        have q66 : f 66 = (.slice B b.length d) := hall 24 (by decide)
        have q67 : f 67 = (iv (b.length : Int)) := hall 25 (by decide)
        have q68 : f 68 = (.slice B b.length d) := hall 26 (by decide)
        have q70 : f 70 = (iv (sm 16 32773 b1 : Nat)) := hall 28 (by decide)
        have q71 : f 71 = (iv (sm 16 32773 C1 : Nat)) := hall 29 (by decide)
        have q72 : f 72 = (.bool false) := hall 30 (by decide)
        have q73 : f 73 = (.bool false) := hall 31 (by decide)
        clear hall
        simp only [putsL, List.foldl_cons, List.foldl_nil, List.setIfInBounds_toArray, List.set_cons_succ, List.set_cons_zero, q42, q44, q45, q46, q47, q49, q50, q51, q52, q54, q55, q56, q57, q58, q60, q61, q62, q63, q65, q66, q67, q68, q70, q71, q72, q73]
        clear q42 q44 q45 q46 q47 q49 q50 q51 q52 q54 q55 q56 q57 q58 q60 q61 q62 q63 q65 q66 q67 q68 q70 q71 q72 q73
        have oE := ho.trans o5
        have k0 := cell_keep oE hk0
        have k1 := cell_keep oE hk1
        have hL0 := hL.nix o0
        have hL5 := hL0.nix oE
        have hC5 := hC.nix o5
        clear X8 X16 hA hB hC
        by_cases t0 : x < 0
        · have b0 : decide (x < 0) = true := by simpa using t0
          go_wp2_with fail
          refine (aw oE hL5).mono ?_
          rintro e w6 ⟨rfl, o6⟩
          go_wp2
          go_ret
          exact ⟨rfl, o0.trans o6⟩
        have b0 : decide (x < 0) = false := by simpa using t0
        by_cases t1 : 3000 < x
        · have b1 : decide (3000 < x) = true := by simpa using t1
          go_wp2_with fail
          refine (aw oE hL5).mono ?_
          rintro e w6 ⟨rfl, o6⟩
          go_wp2
          go_ret
          exact ⟨rfl, o0.trans o6⟩
        have b1 : decide (3000 < x) = false := by simpa using t1
        by_cases t2 : y < 0
        · have b2 : decide (y < 0) = true := by simpa using t2
          go_wp2_with fail
          refine (aw oE hL5).mono ?_
          rintro e w6 ⟨rfl, o6⟩
          go_wp2
          go_ret
          exact ⟨rfl, o0.trans o6⟩
        have b2 : decide (y < 0) = false := by simpa using t2
        by_cases t3 : 3000 < y
        · have b3 : decide (3000 < y) = true := by simpa using t3
          go_wp2_with fail
          refine (aw oE hL5).mono ?_
          rintro e w6 ⟨rfl, o6⟩
          go_wp2
          go_ret
          exact ⟨rfl, o0.trans o6⟩
        have b3 : decide (3000 < y) = false := by simpa using t3
        obtain ⟨p, rfl⟩ := Int.eq_ofNat_of_zero_le (show 0 ≤ x by omega)
        obtain ⟨q, rfl⟩ := Int.eq_ofNat_of_zero_le (show 0 ≤ y by omega)
        have hS : sm 16 32773 C1 < 65536 := sm_lt (n := 16) (by decide) (by decide) _ hC5.lt
        have hX : nous 16 32773 p (sm 16 32773 C1) < 65536 := nous_lt (n := 16) (by decide) _ _ hS
        have hYZ : Hid (nous 16 32773 q (nous 16 32773 p (sm 16 32773 C1)) = nous 16 32773 (p + q) (sm 16 32773 C1)) := (nous_add 16 32773 p q _).symm
        have hz : Hid (nous 16 32773 p (sm 16 32773 C1) = 0 ↔ sm 16 32773 C1 = 0) := by
          show _ ↔ _
          refine ⟨fun e => nous_inj0 (n := 16) (by decide) (by decide) (by decide) p hS e, fun e => ?_⟩
          rw [e]; exact nous_zero _ _ _
        go_wp2_with fail
        refine (one16 oE hL5 hC5).mono ?_
        rintro e w6 ⟨rfl, o6⟩
        have k06 := cell_keep o6 hk0
        have k16 := cell_keep o6 hk1
        clear k0 k1
        generalize sm 16 32773 C1 = S at *
        go_wp2_with fail
        refine (sh16 o6 (hL0.nix o6) S p _ rfl hS (by omega)).mono ?_
        rintro e w7 ⟨rfl, o7⟩
        have k07 := cell_keep o7 hk0
        have k17 := cell_keep o7 hk1
        clear k06 k16
        generalize nous 16 32773 p S = X at *
        go_wp2_with fail
        refine (sh16 o7 (hL0.nix o7) X q _ rfl hX (by omega)).mono ?_
        rintro e w8 ⟨rfl, o8⟩
        have k08 := cell_keep o8 hk0
        have k18 := cell_keep o8 hk1
        clear k07 k17
        rw [hYZ.out]
        go_wp2_with fail
        refine (sh16 o8 (hL0.nix o8) S (p + q) _ (by omega) hS (by omega)).mono ?_
        rintro e w9 ⟨rfl, o9⟩
        generalize nous 16 32773 (p + q) S = Z at *
        have hzz : (((X : Nat) : Int) == 0) = (((S : Nat) : Int) == 0) := by
          have h9 := hz.out
          rw [Bool.eq_iff_iff, beq_iff_eq, beq_iff_eq]
          omega
        have HZ := Lib.hid hzz
        clear hzz
        by_cases hS0 : S = 0
        · have e1 : (((S : Nat) : Int) == 0) = true := by rw [beq_iff_eq]; omega
          have e2 : (((X : Nat) : Int) == 0) = true := by rw [HZ.out, e1]
          go_wp2_with fail
          refine (aw o9 (hL0.nix o9)).mono ?_
          rintro e w10 ⟨rfl, o10⟩
          go_wp2
          go_ret
          exact ⟨rfl, o0.trans o10⟩
        · have e1 : (((S : Nat) : Int) == 0) = false := by rw [beq_eq_false_iff_ne]; omega
          have e2 : (((X : Nat) : Int) == 0) = false := by rw [HZ.out, e1]
          go_wp2_with fail
          refine (aw o9 (hL0.nix o9)).mono ?_
          rintro e w10 ⟨rfl, o10⟩
          go_wp2
          go_ret
          exact ⟨rfl, o0.trans o10⟩

set_option maxHeartbeats 1000000 in
set_option maxRecDepth 100000 in
theorem add_ge (A B : Option Addr) (c d : Nat) (a b : List Nat) (x y : Int) (w : World) (hL : Laid w) (ha : Src w (.slice A a.length c) a) (hb : Src w (.slice B b.length d) b) (hc : a.length ≤ c) (hd : b.length ≤ d)
    (hq : ¬ b.length < a.length) (h4 : a.length ≤ 400) :
    Calls Tryd.prog 8 #[.slice A a.length c, .slice B b.length d, .agg #[iv x, iv y]] w fun e w' => e = .returned (.bool true) ∧ Only Nix w w' := by
  have s1 := ha.small
  have s2 := hb.small
  have g4 : ¬ 400 < (a.length : Int) := by omega
  obtain ⟨i0, hi, hz0, hz1, hz2⟩ := info_parts Tryd.info_byte
  go_enter Tryd.func8, Tryd.ntmps8
  go_wp2
  have o0 := (Only.refl Nix w).alloc (.cells #[iv x, iv y] 41)
  have hk0 : (w.alloc (.cells #[iv x, iv y] 41)).cell? ⟨w.heap.size, 0, none⟩ = some (iv x) := by simp
  have hk1 : (w.alloc (.cells #[iv x, iv y] 41)).cell? ⟨w.heap.size, 1, none⟩ = some (iv y) := by simp
  generalize w.alloc (.cells #[iv x, iv y] 41) = W0 at *
  generalize w.heap.size = g0 at *
  go_loopw [8, 9] (fun s8 s9 wr => AddRel W0 a b a.length s8 s9 wr) (fun _ s9 _ => a.length - (intOf s9).toNat)
  case atStart => exact ⟨0, Nat.zero_le _, rfl, World.ownsRow_nil _ _ _ _, Only.refl _ _⟩
  case round =>
    obtain ⟨i, hin, rfl, hown, ho⟩ := hrel
    by_cases hlt : i < a.length
    · have hlt2 : (i : Int) < (a.length : Int) := by omega
      have l1 : i < a.length := by omega
      have l2 : i < b.length := by omega
      obtain ⟨ad, e1, hx⟩ := (ha.nix (o0.trans ho)).at_ l1
      obtain ⟨ad', e2, hx'⟩ := (hb.nix (o0.trans ho)).at_ l2
      subst e1 e2
      have x1 : a[i] < 256 := ha.lt _ (List.getElem_mem _)
      have x2 : b[i] < 256 := hb.lt _ (List.getElem_mem _)
      have hst : Hid (addB (a.take (i + 1)) (b.take (i + 1)) = addB (a.take i) (b.take i) ++ [a[i] ^^^ b[i]]) := by
        show _ = _
        unfold addB
        rw [List.take_succ_eq_append_getElem l1, List.take_succ_eq_append_getElem l2, List.zipWith_append (by simp; omega)]
        rfl
      unfold byt at hx hx'
      generalize a[i] = u at *
      generalize b[i] = v at *
      obtain ⟨A3, c3, hv3⟩ := owns_slice hown
      subst hv3
      have Hown := Lib.hid hown
      clear hown
      have i1 : (i : Int) < (a.length : Int) := by omega
      have i2 : (i : Int) < (b.length : Int) := by omega
      have hxr : Hid (bits .xor .u8 (u : Int) (v : Int) = ((u ^^^ v : Nat) : Int)) := u8_xor_nat u v x1 x2
      have Hw : Hid (((wr.alloc (.cells #[.int .u8 (bits .xor .u8 (u : Int) (v : Int))] 5)).drew).ownsRow W0.heap.size 5 1 (.slice A3 i c3) i ((addB (a.take i) (b.take i)).map byt)) := Hown.out.alloc _
      have Hn : Hid (∀ (j : Nat) (q : Value), [Value.int .u8 (bits .xor .u8 (u : Int) (v : Int))][j]? = some q → ((wr.alloc (.cells #[.int .u8 (bits .xor .u8 (u : Int) (v : Int))] 5)).drew).cell? (Addr.add ⟨wr.heap.size, 0, none⟩ j) = some q) := by
        show ∀ _, _
        intro j q hq
        rw [Addr.add_lit]
        match j, hq with
        | 0, hq => simp at hq; subst hq; simp
      have Hc : Hid (∀ q ∈ [Value.int .u8 (bits .xor .u8 (u : Int) (v : Int))], q.oneCell' = true) := by
        show ∀ _, _
        intro q hq; simp at hq; subst hq; rfl
      have Hm : Hid (i + 1 ≤ maxLen) := by show _ ≤ _; unfold maxLen; omega
      have Hb : Hid ((i + 1) * 1 ≤ 140737488355328) := by show _ ≤ _; omega
      have Hs : Hid (W0.heap.size ≤ ((wr.alloc (.cells #[.int .u8 (bits .xor .u8 (u : Int) (v : Int))] 5)).drew).heap.size) := by
        show _ ≤ _
        have := ho.size; simp; omega
      go_wp2_with fail
      go_region_law (refine step_append_lies _ rfl (.tmp 30) (.tmp 40) 22 rfl W0.heap.size 5 i0 (.int .u8 0) 1 1 Tryd.underlying22 hi hz0 hz1 hz2 rfl (by decide) (.slice A3 i c3) i ((addB (a.take i) (b.take i)).map byt) (by simp [Act.eval]) Hw.out ⟨wr.heap.size, 0, none⟩ 1 1 [.int .u8 (bits .xor .u8 (u : Int) (v : Int))] (by simp [Act.eval]) rfl Hn.out Hc.out (by decide) Hm.out Hb.out Hs.out _ rfl ?_; intro g cap w3 hown3 hgr hg3 hgl; have HM := Lib.hid (And.intro hown3 hgr); clear hown3 hgr hg3 hgl)
      all_goals
        have ho3 : Only Nix W0 w3 := ((ho.alloc _).drew).grown HM.out.2 (fun k e => .inr (Hown.out.lt k e).1)
        go_wp2
        go_roundw
        case rel =>
          refine ⟨i + 1, by omega, by go_num, ?_, ho3⟩
          have h3 := HM.out.1
          rw [hst.out, List.map_append]
          rw [hxr.out] at h3
          exact h3
        case measure => simp [intOf]; omega
    · obtain rfl : i = a.length := by omega
      have hge0 : ¬ (a.length : Int) < (a.length : Int) := by omega
      have l1 : a.length ≤ a.length := by omega
      have l2 : a.length ≤ b.length := by omega
      have hCl : (addB (a.take a.length) (b.take a.length)).length = a.length := by simp [addB]; omega
      obtain ⟨A4, c4, hv4⟩ := owns_slice hown
      subst hv4
      have hC : Src wr (.slice A4 a.length c4) (addB (a.take a.length) (b.take a.length)) := Src.of_owns hown hCl (by omega) (addB_lt _ _ (fun x hx => ha.lt x (List.mem_of_mem_take hx)) (fun x hx => hb.lt x (List.mem_of_mem_take hx)))
      clear hown
      have oW := o0.trans ho
      have hA := (ha.nix oW).take a.length l1 c
      have hB := (hb.nix oW).take a.length l2 d
      have hL3 := hL.nix oW
      have i1 : (a.length : Int) ≤ (a.length : Int) := by omega
      have i2 : (a.length : Int) ≤ (b.length : Int) := by omega
      have i3 : (a.length : Int) ≤ (c : Int) := by omega
      have i4 : (a.length : Int) ≤ (d : Int) := by omega
      have lx : ∀ f g, f < 2 ^ 17 → g < 2 ^ 17 → bits .xor .i64 ((f : Nat) : Int) ((g : Nat) : Int) = ((f ^^^ g : Nat) : Int) := fun f g hf hg => i64_xor_nat f g (by omega) (by omega)
      have za : (a.take a.length).length = (b.take a.length).length := by simp; omega
      have X8 : Hid (bits .xor .i64 ((sm 8 7 (a.take a.length) : Nat) : Int) ((sm 8 7 (b.take a.length) : Nat) : Int) = ((sm 8 7 (addB (a.take a.length) (b.take a.length)) : Nat) : Int)) := by
        show _ = _
        have h1 : sm 8 7 (a.take a.length) < 2 ^ 8 := sm_lt (by decide) (by decide) _ hA.lt
        have h2 : sm 8 7 (b.take a.length) < 2 ^ 8 := sm_lt (by decide) (by decide) _ hB.lt
        rw [lx _ _ (by omega) (by omega)]
        unfold addB
        rw [sm_zip _ _ _ _ za]
      have X16 : Hid (bits .xor .i64 ((sm 16 32773 (a.take a.length) : Nat) : Int) ((sm 16 32773 (b.take a.length) : Nat) : Int) = ((sm 16 32773 (addB (a.take a.length) (b.take a.length)) : Nat) : Int)) := by
        show _ = _
        have h1 : sm 16 32773 (a.take a.length) < 2 ^ 16 := sm_lt (by decide) (by decide) _ hA.lt
        have h2 : sm 16 32773 (b.take a.length) < 2 ^ 16 := sm_lt (by decide) (by decide) _ hB.lt
        rw [lx _ _ (by omega) (by omega)]
        unfold addB
        rw [sm_zip _ _ _ _ za]
      clear lx za hlt hCl
      generalize addB (a.take a.length) (b.take a.length) = C1 at *
      generalize a.take a.length = a1 at *
      generalize b.take a.length = b1 at *
      go_wp2_with fail
      refine region_by (by kernel_rfl) (fun i => 42 + i) (Has [.inl (.slice A4 a.length c4), .inr [C1], .inl (iv (sm 8 7 C1 : Nat)), .inl (.slice A a.length c), .inl (iv (a.length : Int)), .inl (.slice A a.length c), .inr [a1], .inl (iv (sm 8 7 a1 : Nat)), .inl (.slice B b.length d), .inl (iv (a.length : Int)), .inl (.slice B a.length d), .inr [b1], .inl (iv (sm 8 7 b1 : Nat)), .inl (iv (sm 8 7 C1 : Nat)), .inl (.bool false), .inl (.bool false), .inl (.slice A4 a.length c4), .inr [C1], .inl (iv (sm 16 32773 C1 : Nat)), .inl (.slice A a.length c), .inl (iv (a.length : Int)), .inl (.slice A a.length c), .inr [a1], .inl (iv (sm 16 32773 a1 : Nat)), .inl (.slice B b.length d), .inl (iv (a.length : Int)), .inl (.slice B a.length d), .inr [b1], .inl (iv (sm 16 32773 b1 : Nat)), .inl (iv (sm 16 32773 C1 : Nat)), .inl (.bool false), .inl (.bool false)]) (fun i x u u' hx hu => hx.nix hu) (by kernel_rfl) (fun i j _ _ hij => by have h9 : 42 + i = 42 + j := hij; omega) (fun i hi => by have h9 : i < 32 := hi; show 42 + i < 145; omega) (by kernel_rfl) [42, 43, 44, 45, 46, 47, 48, 49, 50, 51, 52, 53, 54, 55, 56, 57, 58, 59, 60, 61, 62, 63, 64, 65, 66, 67, 68, 69, 70, 71, 72, 73] (by kernel_rfl) ?steps ?done
      case steps =>
        refine ⟨?_, ?_, ?_, ?_, ?_, ?_, ?_, ?_, ?_, ?_, ?_, ?_, ?_, ?_, ?_, ?_, ?_, ?_, ?_, ?_, ?_, ?_, ?_, ?_, ?_, ?_, ?_, ?_, ?_, ?_, ?_, ?_, trivial⟩
        · intro A' u hW hn K' hK
          have r8 : A'.tmps[8]? = some (.slice A4 a.length c4) := (hW.out 8 (fun j _ => by show 42 + j ≠ 8; omega)).trans rfl
          go_simp
          exact hK _ _ (Only.refl _ _) rfl
        · intro A' u hW hn K' hK
          have r42 : A'.tmps[42]? = some (.slice A4 a.length c4) := by have h := hn 0 (by kernel_rfl); have q : A'.tmps.getD 42 undef = (.slice A4 a.length c4) := h.2; rw [← q]; exact h.1
          go_simp
          exact hK _ _ ((Only.refl _ _).alloc _) (lists1 (hC.nix hW.only) 22)
        · intro A' u hW hn K' hK
          have hr := (hn 1 (by kernel_rfl)).1
          have hq := (hn 1 (by kernel_rfl)).2
          have hl : Lists u (A'.tmps.getD 43 undef) [C1] := hq
          have r43 : A'.tmps[43]? = some (A'.tmps.getD 43 undef) := hr
          generalize A'.tmps.getD 43 undef = p at *
          clear hr hq
          have hc := Sum8_any (hL3.nix hW.only) hl
          rw [List.flatten_singleton] at hc
          have HC := Lib.hid hc
          clear hc hl
          go_simp
          refine (HC.out).mono ?_
          rintro e u' ⟨rfl, ho'⟩
          exact hK _ _ ho' rfl
        · intro A' u hW hn K' hK
          have r0 : A'.tmps[0]? = some (.slice A a.length c) := (hW.out 0 (fun j _ => by show 42 + j ≠ 0; omega)).trans rfl
          go_simp
          exact hK _ _ (Only.refl _ _) rfl
        · intro A' u hW hn K' hK
          have r7 : A'.tmps[7]? = some (iv (a.length : Int)) := (hW.out 7 (fun j _ => by show 42 + j ≠ 7; omega)).trans rfl
          go_simp
          exact hK _ _ (Only.refl _ _) rfl
        · intro A' u hW hn K' hK
          have r45 : A'.tmps[45]? = some (.slice A a.length c) := by have h := hn 3 (by kernel_rfl); have q : A'.tmps.getD 45 undef = (.slice A a.length c) := h.2; rw [← q]; exact h.1
          have r46 : A'.tmps[46]? = some (iv (a.length : Int)) := by have h := hn 4 (by kernel_rfl); have q : A'.tmps.getD 46 undef = (iv (a.length : Int)) := h.2; rw [← q]; exact h.1
          go_simp
          exact hK _ _ (Only.refl _ _) rfl
        · intro A' u hW hn K' hK
          have r47 : A'.tmps[47]? = some (.slice A a.length c) := by have h := hn 5 (by kernel_rfl); have q : A'.tmps.getD 47 undef = (.slice A a.length c) := h.2; rw [← q]; exact h.1
          go_simp
          exact hK _ _ ((Only.refl _ _).alloc _) (lists1 (hA.nix hW.only) 22)
        · intro A' u hW hn K' hK
          have hr := (hn 6 (by kernel_rfl)).1
          have hq := (hn 6 (by kernel_rfl)).2
          have hl : Lists u (A'.tmps.getD 48 undef) [a1] := hq
          have r48 : A'.tmps[48]? = some (A'.tmps.getD 48 undef) := hr
          generalize A'.tmps.getD 48 undef = p at *
          clear hr hq
          have hc := Sum8_any (hL3.nix hW.only) hl
          rw [List.flatten_singleton] at hc
          have HC := Lib.hid hc
          clear hc hl
          go_simp
          refine (HC.out).mono ?_
          rintro e u' ⟨rfl, ho'⟩
          exact hK _ _ ho' rfl
        · intro A' u hW hn K' hK
          have r1 : A'.tmps[1]? = some (.slice B b.length d) := (hW.out 1 (fun j _ => by show 42 + j ≠ 1; omega)).trans rfl
          go_simp
          exact hK _ _ (Only.refl _ _) rfl
        · intro A' u hW hn K' hK
          have r7 : A'.tmps[7]? = some (iv (a.length : Int)) := (hW.out 7 (fun j _ => by show 42 + j ≠ 7; omega)).trans rfl
          go_simp
          exact hK _ _ (Only.refl _ _) rfl
        · intro A' u hW hn K' hK
          have r50 : A'.tmps[50]? = some (.slice B b.length d) := by have h := hn 8 (by kernel_rfl); have q : A'.tmps.getD 50 undef = (.slice B b.length d) := h.2; rw [← q]; exact h.1
          have r51 : A'.tmps[51]? = some (iv (a.length : Int)) := by have h := hn 9 (by kernel_rfl); have q : A'.tmps.getD 51 undef = (iv (a.length : Int)) := h.2; rw [← q]; exact h.1
          go_simp
          exact hK _ _ (Only.refl _ _) rfl
        · intro A' u hW hn K' hK
          have r52 : A'.tmps[52]? = some (.slice B a.length d) := by have h := hn 10 (by kernel_rfl); have q : A'.tmps.getD 52 undef = (.slice B a.length d) := h.2; rw [← q]; exact h.1
          go_simp
          exact hK _ _ ((Only.refl _ _).alloc _) (lists1 (hB.nix hW.only) 22)
        · intro A' u hW hn K' hK
          have hr := (hn 11 (by kernel_rfl)).1
          have hq := (hn 11 (by kernel_rfl)).2
          have hl : Lists u (A'.tmps.getD 53 undef) [b1] := hq
          have r53 : A'.tmps[53]? = some (A'.tmps.getD 53 undef) := hr
          generalize A'.tmps.getD 53 undef = p at *
          clear hr hq
          have hc := Sum8_any (hL3.nix hW.only) hl
          rw [List.flatten_singleton] at hc
          have HC := Lib.hid hc
          clear hc hl
          go_simp
          refine (HC.out).mono ?_
          rintro e u' ⟨rfl, ho'⟩
          exact hK _ _ ho' rfl
        · intro A' u hW hn K' hK
          have r49 : A'.tmps[49]? = some (iv (sm 8 7 a1 : Nat)) := by have h := hn 7 (by kernel_rfl); have q : A'.tmps.getD 49 undef = (iv (sm 8 7 a1 : Nat)) := h.2; rw [← q]; exact h.1
          have r54 : A'.tmps[54]? = some (iv (sm 8 7 b1 : Nat)) := by have h := hn 12 (by kernel_rfl); have q : A'.tmps.getD 54 undef = (iv (sm 8 7 b1 : Nat)) := h.2; rw [← q]; exact h.1
          go_simp
          exact hK _ _ (Only.refl _ _) (congrArg iv X8.out)
        · intro A' u hW hn K' hK
          have r44 : A'.tmps[44]? = some (iv (sm 8 7 C1 : Nat)) := by have h := hn 2 (by kernel_rfl); have q : A'.tmps.getD 44 undef = (iv (sm 8 7 C1 : Nat)) := h.2; rw [← q]; exact h.1
          have r55 : A'.tmps[55]? = some (iv (sm 8 7 C1 : Nat)) := by have h := hn 13 (by kernel_rfl); have q : A'.tmps.getD 55 undef = (iv (sm 8 7 C1 : Nat)) := h.2; rw [← q]; exact h.1
          go_simp
          exact hK _ _ (Only.refl _ _) rfl
        · intro A' u hW hn K' hK
          have r56 : A'.tmps[56]? = some (.bool false) := by have h := hn 14 (by kernel_rfl); have q : A'.tmps.getD 56 undef = (.bool false) := h.2; rw [← q]; exact h.1
          go_simp
          exact hK _ _ (Only.refl _ _) rfl
        · intro A' u hW hn K' hK
          have r57 : A'.tmps[57]? = some (.bool false) := by have h := hn 15 (by kernel_rfl); have q : A'.tmps.getD 57 undef = (.bool false) := h.2; rw [← q]; exact h.1
          have r8 : A'.tmps[8]? = some (.slice A4 a.length c4) := (hW.out 8 (fun j _ => by show 42 + j ≠ 8; omega)).trans rfl
          go_simp
          exact hK _ _ (Only.refl _ _) rfl
        · intro A' u hW hn K' hK
          have r57 : A'.tmps[57]? = some (.bool false) := by have h := hn 15 (by kernel_rfl); have q : A'.tmps.getD 57 undef = (.bool false) := h.2; rw [← q]; exact h.1
          have r58 : A'.tmps[58]? = some (.slice A4 a.length c4) := by have h := hn 16 (by kernel_rfl); have q : A'.tmps.getD 58 undef = (.slice A4 a.length c4) := h.2; rw [← q]; exact h.1
          go_simp
          exact hK _ _ ((Only.refl _ _).alloc _) (lists1 (hC.nix hW.only) 22)
        · intro A' u hW hn K' hK
          have r57 : A'.tmps[57]? = some (.bool false) := by have h := hn 15 (by kernel_rfl); have q : A'.tmps.getD 57 undef = (.bool false) := h.2; rw [← q]; exact h.1
          have hr := (hn 17 (by kernel_rfl)).1
          have hq := (hn 17 (by kernel_rfl)).2
          have hl : Lists u (A'.tmps.getD 59 undef) [C1] := hq
          have r59 : A'.tmps[59]? = some (A'.tmps.getD 59 undef) := hr
          generalize A'.tmps.getD 59 undef = p at *
          clear hr hq
          have hc := Sum16_any (hL3.nix hW.only) hl
          rw [List.flatten_singleton] at hc
          have HC := Lib.hid hc
          clear hc hl
          go_simp
          refine (HC.out).mono ?_
          rintro e u' ⟨rfl, ho'⟩
          exact hK _ _ ho' rfl
        · intro A' u hW hn K' hK
          have r57 : A'.tmps[57]? = some (.bool false) := by have h := hn 15 (by kernel_rfl); have q : A'.tmps.getD 57 undef = (.bool false) := h.2; rw [← q]; exact h.1
          have r0 : A'.tmps[0]? = some (.slice A a.length c) := (hW.out 0 (fun j _ => by show 42 + j ≠ 0; omega)).trans rfl
          go_simp
          exact hK _ _ (Only.refl _ _) rfl
        · intro A' u hW hn K' hK
          have r57 : A'.tmps[57]? = some (.bool false) := by have h := hn 15 (by kernel_rfl); have q : A'.tmps.getD 57 undef = (.bool false) := h.2; rw [← q]; exact h.1
          have r7 : A'.tmps[7]? = some (iv (a.length : Int)) := (hW.out 7 (fun j _ => by show 42 + j ≠ 7; omega)).trans rfl
          go_simp
          exact hK _ _ (Only.refl _ _) rfl
        · intro A' u hW hn K' hK
          have r57 : A'.tmps[57]? = some (.bool false) := by have h := hn 15 (by kernel_rfl); have q : A'.tmps.getD 57 undef = (.bool false) := h.2; rw [← q]; exact h.1
          have r61 : A'.tmps[61]? = some (.slice A a.length c) := by have h := hn 19 (by kernel_rfl); have q : A'.tmps.getD 61 undef = (.slice A a.length c) := h.2; rw [← q]; exact h.1
          have r62 : A'.tmps[62]? = some (iv (a.length : Int)) := by have h := hn 20 (by kernel_rfl); have q : A'.tmps.getD 62 undef = (iv (a.length : Int)) := h.2; rw [← q]; exact h.1
          go_simp
          exact hK _ _ (Only.refl _ _) rfl
        · intro A' u hW hn K' hK
          have r57 : A'.tmps[57]? = some (.bool false) := by have h := hn 15 (by kernel_rfl); have q : A'.tmps.getD 57 undef = (.bool false) := h.2; rw [← q]; exact h.1
          have r63 : A'.tmps[63]? = some (.slice A a.length c) := by have h := hn 21 (by kernel_rfl); have q : A'.tmps.getD 63 undef = (.slice A a.length c) := h.2; rw [← q]; exact h.1
          go_simp
          exact hK _ _ ((Only.refl _ _).alloc _) (lists1 (hA.nix hW.only) 22)
        · intro A' u hW hn K' hK
          have r57 : A'.tmps[57]? = some (.bool false) := by have h := hn 15 (by kernel_rfl); have q : A'.tmps.getD 57 undef = (.bool false) := h.2; rw [← q]; exact h.1
          have hr := (hn 22 (by kernel_rfl)).1
          have hq := (hn 22 (by kernel_rfl)).2
          have hl : Lists u (A'.tmps.getD 64 undef) [a1] := hq
          have r64 : A'.tmps[64]? = some (A'.tmps.getD 64 undef) := hr
          generalize A'.tmps.getD 64 undef = p at *
          clear hr hq
          have hc := Sum16_any (hL3.nix hW.only) hl
          rw [List.flatten_singleton] at hc
          have HC := Lib.hid hc
          clear hc hl
          go_simp
          refine (HC.out).mono ?_
          rintro e u' ⟨rfl, ho'⟩
          exact hK _ _ ho' rfl
        · intro A' u hW hn K' hK
          have r57 : A'.tmps[57]? = some (.bool false) := by have h := hn 15 (by kernel_rfl); have q : A'.tmps.getD 57 undef = (.bool false) := h.2; rw [← q]; exact h.1
          have r1 : A'.tmps[1]? = some (.slice B b.length d) := (hW.out 1 (fun j _ => by show 42 + j ≠ 1; omega)).trans rfl
          go_simp
          exact hK _ _ (Only.refl _ _) rfl
        · intro A' u hW hn K' hK
          have r57 : A'.tmps[57]? = some (.bool false) := by have h := hn 15 (by kernel_rfl); have q : A'.tmps.getD 57 undef = (.bool false) := h.2; rw [← q]; exact h.1
          have r7 : A'.tmps[7]? = some (iv (a.length : Int)) := (hW.out 7 (fun j _ => by show 42 + j ≠ 7; omega)).trans rfl
          go_simp
          exact hK _ _ (Only.refl _ _) rfl
        · intro A' u hW hn K' hK
          have r57 : A'.tmps[57]? = some (.bool false) := by have h := hn 15 (by kernel_rfl); have q : A'.tmps.getD 57 undef = (.bool false) := h.2; rw [← q]; exact h.1
          have r66 : A'.tmps[66]? = some (.slice B b.length d) := by have h := hn 24 (by kernel_rfl); have q : A'.tmps.getD 66 undef = (.slice B b.length d) := h.2; rw [← q]; exact h.1
          have r67 : A'.tmps[67]? = some (iv (a.length : Int)) := by have h := hn 25 (by kernel_rfl); have q : A'.tmps.getD 67 undef = (iv (a.length : Int)) := h.2; rw [← q]; exact h.1
          go_simp
          exact hK _ _ (Only.refl _ _) rfl
        · intro A' u hW hn K' hK
          have r57 : A'.tmps[57]? = some (.bool false) := by have h := hn 15 (by kernel_rfl); have q : A'.tmps.getD 57 undef = (.bool false) := h.2; rw [← q]; exact h.1
          have r68 : A'.tmps[68]? = some (.slice B a.length d) := by have h := hn 26 (by kernel_rfl); have q : A'.tmps.getD 68 undef = (.slice B a.length d) := h.2; rw [← q]; exact h.1
          go_simp
          exact hK _ _ ((Only.refl _ _).alloc _) (lists1 (hB.nix hW.only) 22)
        · intro A' u hW hn K' hK
          have r57 : A'.tmps[57]? = some (.bool false) := by have h := hn 15 (by kernel_rfl); have q : A'.tmps.getD 57 undef = (.bool false) := h.2; rw [← q]; exact h.1
          have hr := (hn 27 (by kernel_rfl)).1
          have hq := (hn 27 (by kernel_rfl)).2
          have hl : Lists u (A'.tmps.getD 69 undef) [b1] := hq
          have r69 : A'.tmps[69]? = some (A'.tmps.getD 69 undef) := hr
          generalize A'.tmps.getD 69 undef = p at *
          clear hr hq
          have hc := Sum16_any (hL3.nix hW.only) hl
          rw [List.flatten_singleton] at hc
          have HC := Lib.hid hc
          clear hc hl
          go_simp
          refine (HC.out).mono ?_
          rintro e u' ⟨rfl, ho'⟩
          exact hK _ _ ho' rfl
        · intro A' u hW hn K' hK
          have r57 : A'.tmps[57]? = some (.bool false) := by have h := hn 15 (by kernel_rfl); have q : A'.tmps.getD 57 undef = (.bool false) := h.2; rw [← q]; exact h.1
          have r65 : A'.tmps[65]? = some (iv (sm 16 32773 a1 : Nat)) := by have h := hn 23 (by kernel_rfl); have q : A'.tmps.getD 65 undef = (iv (sm 16 32773 a1 : Nat)) := h.2; rw [← q]; exact h.1
          have r70 : A'.tmps[70]? = some (iv (sm 16 32773 b1 : Nat)) := by have h := hn 28 (by kernel_rfl); have q : A'.tmps.getD 70 undef = (iv (sm 16 32773 b1 : Nat)) := h.2; rw [← q]; exact h.1
          go_simp
          exact hK _ _ (Only.refl _ _) (congrArg iv X16.out)
        · intro A' u hW hn K' hK
          have r57 : A'.tmps[57]? = some (.bool false) := by have h := hn 15 (by kernel_rfl); have q : A'.tmps.getD 57 undef = (.bool false) := h.2; rw [← q]; exact h.1
          have r60 : A'.tmps[60]? = some (iv (sm 16 32773 C1 : Nat)) := by have h := hn 18 (by kernel_rfl); have q : A'.tmps.getD 60 undef = (iv (sm 16 32773 C1 : Nat)) := h.2; rw [← q]; exact h.1
          have r71 : A'.tmps[71]? = some (iv (sm 16 32773 C1 : Nat)) := by have h := hn 29 (by kernel_rfl); have q : A'.tmps.getD 71 undef = (iv (sm 16 32773 C1 : Nat)) := h.2; rw [← q]; exact h.1
          go_simp
          exact hK _ _ (Only.refl _ _) rfl
        · intro A' u hW hn K' hK
          have r57 : A'.tmps[57]? = some (.bool false) := by have h := hn 15 (by kernel_rfl); have q : A'.tmps.getD 57 undef = (.bool false) := h.2; rw [← q]; exact h.1
          have r72 : A'.tmps[72]? = some (.bool false) := by have h := hn 30 (by kernel_rfl); have q : A'.tmps.getD 72 undef = (.bool false) := h.2; rw [← q]; exact h.1
          go_simp
          exact hK _ _ (Only.refl _ _) rfl
      case done =>
        intro f w5 o5 hall
        have q42 : f 42 = (.slice A4 a.length c4) := hall 0 (by decide)
        have q44 : f 44 = (iv (sm 8 7 C1 : Nat)) := hall 2 (by decide)
        have q45 : f 45 = (.slice A a.length c) := hall 3 (by decide)
        have q46 : f 46 = (iv (a.length : Int)) := hall 4 (by decide)
        have q47 : f 47 = (.slice A a.length c) := hall 5 (by decide)
        have q49 : f 49 = (iv (sm 8 7 a1 : Nat)) := hall 7 (by decide)
        have q50 : f 50 = (.slice B b.length d) := hall 8 (by decide)
        have q51 : f 51 = (iv (a.length : Int)) := hall 9 (by decide)
        have q52 : f 52 = (.slice B a.length d) := hall 10 (by decide)
        have q54 : f 54 = (iv (sm 8 7 b1 : Nat)) := hall 12 (by decide)
        have q55 : f 55 = (iv (sm 8 7 C1 : Nat)) := hall 13 (by decide)
        have q56 : f 56 = (.bool false) := hall 14 (by decide)
        have q57 : f 57 = (.bool false) := hall 15 (by decide)
        have q58 : f 58 = (.slice A4 a.length c4) := hall 16 (by decide)
        have q60 : f 60 = (iv (sm 16 32773 C1 : Nat)) := hall 18 (by decide)
        have q61 : f 61 = (.slice A a.length c) := hall 19 (by decide)
        have q62 : f 62 = (iv (a.length : Int)) := hall 20 (by decide)
        have q63 : f 63 = (.slice A a.length c) := hall 21 (by decide)
        have q65 : f 65 = (iv (sm 16 32773 a1 : Nat)) := hall 23 (by decide)
        have q66 : f 66 = (.slice B b.length d) := hall 24 (by decide)
        have q67 : f 67 = (iv (a.length : Int)) := hall 25 (by decide)
        have q68 : f 68 = (.slice B a.length d) := hall 26 (by decide)
        have q70 : f 70 = (iv (sm 16 32773 b1 : Nat)) := hall 28 (by decide)
        have q71 : f 71 = (iv (sm 16 32773 C1 : Nat)) := hall 29 (by decide)
        have q72 : f 72 = (.bool false) := hall 30 (by decide)
        have q73 : f 73 = (.bool false) := hall 31 (by decide)
        clear hall
        simp only [putsL, List.foldl_cons, List.foldl_nil, List.setIfInBounds_toArray, List.set_cons_succ, List.set_cons_zero, q42, q44, q45, q46, q47, q49, q50, q51, q52, q54, q55, q56, q57, q58, q60, q61, q62, q63, q65, q66, q67, q68, q70, q71, q72, q73]
        clear q42 q44 q45 q46 q47 q49 q50 q51 q52 q54 q55 q56 q57 q58 q60 q61 q62 q63 q65 q66 q67 q68 q70 q71 q72 q73
        have oE := ho.trans o5
        have k0 := cell_keep oE hk0
        have k1 := cell_keep oE hk1
        have hL0 := hL.nix o0
        have hL5 := hL0.nix oE
        have hC5 := hC.nix o5
        clear X8 X16 hA hB hC
        by_cases t0 : x < 0
        · have b0 : decide (x < 0) = true := by simpa using t0
          go_wp2_with fail
          refine (aw oE hL5).mono ?_
          rintro e w6 ⟨rfl, o6⟩
          go_wp2
          go_ret
          exact ⟨rfl, o0.trans o6⟩
        have b0 : decide (x < 0) = false := by simpa using t0
        by_cases t1 : 3000 < x
        · have b1 : decide (3000 < x) = true := by simpa using t1
          go_wp2_with fail
          refine (aw oE hL5).mono ?_
          rintro e w6 ⟨rfl, o6⟩
          go_wp2
          go_ret
          exact ⟨rfl, o0.trans o6⟩
        have b1 : decide (3000 < x) = false := by simpa using t1
        by_cases t2 : y < 0
        · have b2 : decide (y < 0) = true := by simpa using t2
          go_wp2_with fail
          refine (aw oE hL5).mono ?_
          rintro e w6 ⟨rfl, o6⟩
          go_wp2
          go_ret
          exact ⟨rfl, o0.trans o6⟩
        have b2 : decide (y < 0) = false := by simpa using t2
        by_cases t3 : 3000 < y
        · have b3 : decide (3000 < y) = true := by simpa using t3
          go_wp2_with fail
          refine (aw oE hL5).mono ?_
          rintro e w6 ⟨rfl, o6⟩
          go_wp2
          go_ret
          exact ⟨rfl, o0.trans o6⟩
        have b3 : decide (3000 < y) = false := by simpa using t3
        obtain ⟨p, rfl⟩ := Int.eq_ofNat_of_zero_le (show 0 ≤ x by omega)
        obtain ⟨q, rfl⟩ := Int.eq_ofNat_of_zero_le (show 0 ≤ y by omega)
        have hS : sm 16 32773 C1 < 65536 := sm_lt (n := 16) (by decide) (by decide) _ hC5.lt
        have hX : nous 16 32773 p (sm 16 32773 C1) < 65536 := nous_lt (n := 16) (by decide) _ _ hS
        have hYZ : Hid (nous 16 32773 q (nous 16 32773 p (sm 16 32773 C1)) = nous 16 32773 (p + q) (sm 16 32773 C1)) := (nous_add 16 32773 p q _).symm
        have hz : Hid (nous 16 32773 p (sm 16 32773 C1) = 0 ↔ sm 16 32773 C1 = 0) := by
          show _ ↔ _
          refine ⟨fun e => nous_inj0 (n := 16) (by decide) (by decide) (by decide) p hS e, fun e => ?_⟩
          rw [e]; exact nous_zero _ _ _
        go_wp2_with fail
        refine (one16 oE hL5 hC5).mono ?_
        rintro e w6 ⟨rfl, o6⟩
        have k06 := cell_keep o6 hk0
        have k16 := cell_keep o6 hk1
        clear k0 k1
        generalize sm 16 32773 C1 = S at *
        go_wp2_with fail
        refine (sh16 o6 (hL0.nix o6) S p _ rfl hS (by omega)).mono ?_
        rintro e w7 ⟨rfl, o7⟩
        have k07 := cell_keep o7 hk0
        have k17 := cell_keep o7 hk1
        clear k06 k16
        generalize nous 16 32773 p S = X at *
        go_wp2_with fail
        refine (sh16 o7 (hL0.nix o7) X q _ rfl hX (by omega)).mono ?_
        rintro e w8 ⟨rfl, o8⟩
        have k08 := cell_keep o8 hk0
        have k18 := cell_keep o8 hk1
        clear k07 k17
        rw [hYZ.out]
        go_wp2_with fail
        refine (sh16 o8 (hL0.nix o8) S (p + q) _ (by omega) hS (by omega)).mono ?_
        rintro e w9 ⟨rfl, o9⟩
        generalize nous 16 32773 (p + q) S = Z at *
        have hzz : (((X : Nat) : Int) == 0) = (((S : Nat) : Int) == 0) := by
          have h9 := hz.out
          rw [Bool.eq_iff_iff, beq_iff_eq, beq_iff_eq]
          omega
        have HZ := Lib.hid hzz
        clear hzz
        by_cases hS0 : S = 0
        · have e1 : (((S : Nat) : Int) == 0) = true := by rw [beq_iff_eq]; omega
          have e2 : (((X : Nat) : Int) == 0) = true := by rw [HZ.out, e1]
          go_wp2_with fail
          refine (aw o9 (hL0.nix o9)).mono ?_
          rintro e w10 ⟨rfl, o10⟩
          go_wp2
          go_ret
          exact ⟨rfl, o0.trans o10⟩
        · have e1 : (((S : Nat) : Int) == 0) = false := by rw [beq_eq_false_iff_ne]; omega
          have e2 : (((X : Nat) : Int) == 0) = false := by rw [HZ.out, e1]
          go_wp2_with fail
          refine (aw o9 (hL0.nix o9)).mono ?_
          rintro e w10 ⟨rfl, o10⟩
          go_wp2
          go_ret
          exact ⟨rfl, o0.trans o10⟩

set_option maxHeartbeats 400000 in
set_option maxRecDepth 100000 in
theorem add_far_lt (A B : Option Addr) (c d : Nat) (a b : List Nat) (x y : Int) (w : World) (hL : Laid w) (_s1 : a.length ≤ 140737488355328) (_s2 : b.length ≤ 140737488355328) (hq : b.length < a.length) (h4 : 400 < b.length) :
    Calls Tryd.prog 8 #[.slice A a.length c, .slice B b.length d, .agg #[iv x, iv y]] w fun e w' => e = .returned (.bool true) ∧ Only Nix w w' := by
  have g4 : 400 < (b.length : Int) := by omega
  have o0 := (Only.refl Nix w).alloc (.cells #[iv x, iv y] 41)
  have H := Lib.hid (awake_any (hL.nix o0))
  go_enter Tryd.func8, Tryd.ntmps8
  go_wp2_with fail
  refine (H.out).mono ?_
  rintro e w1 ⟨rfl, ho1⟩
  go_wp2
  go_ret
  exact ⟨rfl, o0.trans ho1⟩

set_option maxHeartbeats 400000 in
set_option maxRecDepth 100000 in
theorem add_far_ge (A B : Option Addr) (c d : Nat) (a b : List Nat) (x y : Int) (w : World) (hL : Laid w) (_s1 : a.length ≤ 140737488355328) (_s2 : b.length ≤ 140737488355328) (hq : ¬ b.length < a.length) (h4 : 400 < a.length) :
    Calls Tryd.prog 8 #[.slice A a.length c, .slice B b.length d, .agg #[iv x, iv y]] w fun e w' => e = .returned (.bool true) ∧ Only Nix w w' := by
  have g4 : 400 < (a.length : Int) := by omega
  have o0 := (Only.refl Nix w).alloc (.cells #[iv x, iv y] 41)
  have H := Lib.hid (awake_any (hL.nix o0))
  go_enter Tryd.func8, Tryd.ntmps8
  go_wp2_with fail
  refine (H.out).mono ?_
  rintro e w1 ⟨rfl, ho1⟩
  go_wp2
  go_ret
  exact ⟨rfl, o0.trans ho1⟩

theorem sumsAdd_walk (A B : Option Addr) (c d : Nat) (a b : List Nat) (x y : Int) (w : World) (hL : Laid w) (ha : Src w (.slice A a.length c) a) (hb : Src w (.slice B b.length d) b) (hc : a.length ≤ c) (hd : b.length ≤ d) :
    Calls Tryd.prog 8 #[.slice A a.length c, .slice B b.length d, .agg #[iv x, iv y]] w fun e w' => e = .returned (.bool true) ∧ Only Nix w w' := by
  by_cases hq : b.length < a.length
  · by_cases h4 : 400 < b.length
    · exact add_far_lt A B c d a b x y w hL ha.small hb.small hq h4
    · exact add_lt A B c d a b x y w hL ha hb hc hd hq (by omega)
  · by_cases h4 : 400 < a.length
    · exact add_far_ge A B c d a b x y w hL ha.small hb.small hq h4
    · exact add_ge A B c d a b x y w hL ha hb hc hd hq (by omega)
end Go.Proofs.YtmnnjbamphoghaaDoor
