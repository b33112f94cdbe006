/-
  Read: the info that bytes are.
-/
import Derived.Test.YtpgcaijanmpanaaIU
import Derived.Laws.CopyRow
import Derived.Laws.CopyOwn
import Derived.Deep.RegionLaw
namespace Go.Proofs.Ytpgcaijanmpanaa
open Go.RowKit Go.Shelf

theorem Src.drop {w : World} {ad : Addr} {n c : Nat} {bs : List Nat} (h : Src w (.slice (some ad) n c) bs) (m : Nat) (hm : m ≤ n) : Src w (.slice (some (ad.add m)) (n - m) (c - m)) (bs.drop m) := by
  have hn := h.len
  refine ⟨⟨some (ad.add m), c - m, by rw [List.length_drop, ← hn], fun j hj => ⟨_, rfl, ?_⟩⟩, by have := h.small; rw [List.length_drop]; omega, fun x hx => h.lt x (List.mem_of_mem_drop hx)⟩
  rw [List.length_drop] at hj
  obtain ⟨ad', e, hx⟩ := h.at_ (k := m + j) (by omega)
  injection e with e
  subst e
  rw [add_add, hx, List.getElem_drop]
def TkRel (w : World) (bs : List Nat) (m : Nat) (s3 s10 : Value) (wr : World) : Prop := ∃ k : Nat, k ≤ m ∧ s10 = iv k ∧ s3 = .int .u64 ((vl (bs.take k) : Nat) : Int) ∧ w = wr
def TkR (w : World) (g : Nat) (B : Nat) (bs : List Nat) (m n c : Nat) (e : Ending) (w' : World) : Prop :=
  ∃ ad', e = .returned (.int .u64 ((vl (bs.take m) : Nat) : Int)) ∧ Box w' g 27 #[.slice (some ad') n c] ∧ Src w' (.slice (some ad') n c) (bs.drop m) ∧ ad'.block = B ∧ Only (Just g) w w'
set_option maxHeartbeats 4000000 in
theorem take_any {w : World} {g n c : Nat} {ad : Addr} {bs : List Nat} (m : Nat) (hB : Box w g 27 #[.slice (some ad) n c]) (hs : Src w (.slice (some ad) n c) bs) (hm : m ≤ 8) (hmn : m < n) (hnc : n ≤ c) (hne : ad.block ≠ g) :
    Calls Try.prog 38 #[iv m, .pointer (some ⟨g, 0, none⟩)] w fun e w' => TkR w g ad.block bs m (n - m) (c - m) e w' := by
  have hlen := hs.len
  have hsm := hs.small
  rw [← hlen] at hsm
  have hg := hB.cell 0
  have hf := hB.frozen 0
  simp only [List.getElem?_toArray, List.getElem?_cons_zero] at hg
  have HB := Lib.hid hB
  have HS := Lib.hid hs
  have Hlen := Lib.hid hlen
  have hB2 : Hid (TkR w g ad.block bs m (n - m) (c - m) (.returned (.int .u64 ((vl (bs.take m) : Nat) : Int))) (w.setCell ⟨g, 0, none⟩ (.slice (some (ad.add m)) (n - m) (c - m)))) := Lib.hid
    ⟨ad.add m, rfl, hB.put 0 _, ((hs.drop m (Nat.le_of_lt hmn)).only ((Only.refl (Just g) w).setCell (p := ⟨g, 0, none⟩) (.inl rfl) _) (fun i _ hi ad2 n2 c2 e2 => by
      injection e2 with e2 _ _
      injection e2 with e2
      rw [← e2, add_block, show i = g from hi]
      exact hne)), add_block _ _, (Only.refl (Just g) w).setCell (p := ⟨g, 0, none⟩) (.inl rfl) _⟩
  have hVt : Hid (∀ k, k ≤ 8 → vl (bs.take k) < 2 ^ (8 * k)) := Lib.hid (fun k hk => by
    have := vl_lt (bs.take k) (fun x hx => hs.lt x (List.mem_of_mem_take hx))
    refine Nat.lt_of_lt_of_le this (Nat.pow_le_pow_right (by decide) ?_)
    rw [List.length_take]; omega)
  have hmni : ¬ (m : Int) = (c : Int) := by omega
  have hmc : ¬ m = c := by omega
  have hmci : (m : Int) ≤ (c : Int) := by omega
  have hmni2 : (m : Int) ≤ (n : Int) := by omega
  have hnm : (n : Int) - (m : Int) = ((n - m : Nat) : Int) := by omega
  clear hB hs hlen
  go_enter Try.func38, Try.ntmps38
  go_wp2
  go_loopw [3, 10] (fun s3 s10 wr => TkRel w bs m s3 s10 wr) (fun _ s10 _ => m - (intOf s10).toNat)
  case atStart => exact ⟨0, Nat.zero_le _, rfl, by simp [vl], rfl⟩
  case round =>
    obtain ⟨k, hk, rfl, rfl, rfl⟩ := hrel
    by_cases hlt : k < m
    · have hkb : k < bs.length := by rw [← Hlen.out]; omega
      obtain ⟨ad', e, hx⟩ := HS.out.at_ hkb
      injection e with e
      subst e
      have hxl := HS.out.lt _ (List.getElem_mem hkb)
      have hlti : (k : Int) < (m : Int) := by omega
      have HT : Hid (vl (bs.take (k + 1)) = vl (bs.take k) * 256 + bs[k]) := Lib.hid (by rw [List.take_succ_eq_append_getElem hkb, vl_snoc])
      have hV : vl (bs.take k) ≤ 72057594037927935 := by
        have := hVt.out k (by omega)
        have h2 : 2 ^ (8 * k) ≤ 2 ^ 56 := Nat.pow_le_pow_right (by decide) (by omega)
        rw [show (2 : Nat) ^ 56 = 72057594037927936 by decide] at h2
        omega
      generalize bs[k] = x at *
      generalize vl (bs.take k) = V at *
      have ho : bits .or .u64 ((V : Int) * 256) (x : Int) = ((V * 256 + x : Nat) : Int) := by
        have := u64_or (V * 256) x 8 (by omega) (by omega) (by omega)
        rwa [Int.natCast_mul] at this
      unfold byt at hx
      clear hkb
      go_wp2
      go_roundw
      case rel => exact ⟨k + 1, hlt, by go_num, by rw [HT.out, Int.natCast_add, Int.natCast_mul]; rfl, rfl⟩
      case measure => simp [intOf]; omega
    · obtain rfl : k = m := by omega
      have hlti : ¬ (k : Int) < (k : Int) := by omega
      clear hVt
      go_wp2
      go_ret
      exact hB2.out
set_option maxHeartbeats 2000000 in
theorem last_36 {w : World} {g : Nat} (V : Nat) (hB : Box w g 57 #[.int .u64 (V : Int)]) (hV : V < 18446744073709551616) :
    Calls Try.prog 39 #[.int .i64 36, .pointer (some ⟨g, 0, none⟩)] w fun e w' => e = .returned (iv (V % 68719476736 : Nat)) ∧ Box w' g 57 #[.int .u64 ((V / 68719476736 : Nat) : Int)] ∧ Only (Just g) w w' := by
  have ha : bits .and .u64 (V : Int) 68719476735 = ((V % 68719476736 : Nat) : Int) := by
    have h := (bits_nat .u64 64 (by decide) (fun n h0 h1 => by rw [IntKind.wrap_u64]; omega) V 68719476735 (by omega) (by decide)).1
    rw [show (68719476735 : Nat) = 2 ^ 36 - 1 by decide, Nat.and_two_pow_sub_one_eq_mod, show (2 : Nat) ^ 36 = 68719476736 by decide] at h
    exact h
  have hm : V % 68719476736 < 68719476736 := Nat.mod_lt _ (by decide)
  have hg0 := hB.cell 0
  have hf0 := hB.frozen 0
  simp only [List.getElem?_toArray, List.getElem?_cons_zero] at hg0
  have HB := Lib.hid hB
  clear hB
  obtain ⟨P, hP⟩ : ∃ P, V % 68719476736 = P := ⟨_, rfl⟩
  have HP := Lib.hid hP
  rw [hP] at ha hm ⊢
  clear hP
  go_enter Try.func39, Try.ntmps39
  go_wp2_with fail
  go_quiet (fail)
  have hg1 : (w.drewN nq).cell? ⟨g, 0, none⟩ = some (.int .u64 (V : Int)) := hg0
  have hf1 : (w.drewN nq).frozen? ⟨g, 0, none⟩ = false := hf0
  go_wp2
  go_ret
  exact ⟨rfl, (HB.out.drewN nq).put 0 _, ((Only.refl (Just g) w).drewN nq).setCell (p := ⟨g, 0, none⟩) (.inl rfl) _⟩
set_option maxHeartbeats 2000000 in
theorem last_5 {w : World} {g : Nat} (V : Nat) (hB : Box w g 57 #[.int .u64 (V : Int)]) (hV : V < 18446744073709551616) :
    Calls Try.prog 39 #[.int .i64 5, .pointer (some ⟨g, 0, none⟩)] w fun e w' => e = .returned (iv (V % 32 : Nat)) ∧ Box w' g 57 #[.int .u64 ((V / 32 : Nat) : Int)] ∧ Only (Just g) w w' := by
  have ha : bits .and .u64 (V : Int) 31 = ((V % 32 : Nat) : Int) := by
    have h := (bits_nat .u64 64 (by decide) (fun n h0 h1 => by rw [IntKind.wrap_u64]; omega) V 31 (by omega) (by decide)).1
    rw [show (31 : Nat) = 2 ^ 5 - 1 by decide, Nat.and_two_pow_sub_one_eq_mod, show (2 : Nat) ^ 5 = 32 by decide] at h
    exact h
  have hm : V % 32 < 32 := Nat.mod_lt _ (by decide)
  have hg0 := hB.cell 0
  have hf0 := hB.frozen 0
  simp only [List.getElem?_toArray, List.getElem?_cons_zero] at hg0
  have HB := Lib.hid hB
  clear hB
  obtain ⟨P, hP⟩ : ∃ P, V % 32 = P := ⟨_, rfl⟩
  have HP := Lib.hid hP
  rw [hP] at ha hm ⊢
  clear hP
  go_enter Try.func39, Try.ntmps39
  go_wp2_with fail
  go_quiet (fail)
  have hg1 : (w.drewN nq).cell? ⟨g, 0, none⟩ = some (.int .u64 (V : Int)) := hg0
  have hf1 : (w.drewN nq).frozen? ⟨g, 0, none⟩ = false := hf0
  go_wp2
  go_ret
  exact ⟨rfl, (HB.out.drewN nq).put 0 _, ((Only.refl (Just g) w).drewN nq).setCell (p := ⟨g, 0, none⟩) (.inl rfl) _⟩
set_option maxHeartbeats 2000000 in
theorem last_3 {w : World} {g : Nat} (V : Nat) (hB : Box w g 57 #[.int .u64 (V : Int)]) (hV : V < 18446744073709551616) :
    Calls Try.prog 39 #[.int .i64 3, .pointer (some ⟨g, 0, none⟩)] w fun e w' => e = .returned (iv (V % 8 : Nat)) ∧ Box w' g 57 #[.int .u64 ((V / 8 : Nat) : Int)] ∧ Only (Just g) w w' := by
  have ha : bits .and .u64 (V : Int) 7 = ((V % 8 : Nat) : Int) := by
    have h := (bits_nat .u64 64 (by decide) (fun n h0 h1 => by rw [IntKind.wrap_u64]; omega) V 7 (by omega) (by decide)).1
    rw [show (7 : Nat) = 2 ^ 3 - 1 by decide, Nat.and_two_pow_sub_one_eq_mod, show (2 : Nat) ^ 3 = 8 by decide] at h
    exact h
  have hm : V % 8 < 8 := Nat.mod_lt _ (by decide)
  have hg0 := hB.cell 0
  have hf0 := hB.frozen 0
  simp only [List.getElem?_toArray, List.getElem?_cons_zero] at hg0
  have HB := Lib.hid hB
  clear hB
  obtain ⟨P, hP⟩ : ∃ P, V % 8 = P := ⟨_, rfl⟩
  have HP := Lib.hid hP
  rw [hP] at ha hm ⊢
  clear hP
  go_enter Try.func39, Try.ntmps39
  go_wp2_with fail
  go_quiet (fail)
  have hg1 : (w.drewN nq).cell? ⟨g, 0, none⟩ = some (.int .u64 (V : Int)) := hg0
  have hf1 : (w.drewN nq).frozen? ⟨g, 0, none⟩ = false := hf0
  go_wp2
  go_ret
  exact ⟨rfl, (HB.out.drewN nq).put 0 _, ((Only.refl (Just g) w).drewN nq).setCell (p := ⟨g, 0, none⟩) (.inl rfl) _⟩
end Go.Proofs.Ytpgcaijanmpanaa
