/-
  Points: the points that bytes are.
-/
import Derived.Test.YtighdjbeddcckaaDoorVH0
namespace Go.Proofs.YtighdjbeddcckaaDoor
open Go.RowKit Go.Shelf

theorem Src.take {w : World} {A : Option Addr} {n c : Nat} {bs : List Nat} (h : Src w (.slice A n c) bs) (m c' : Nat) (hm : m ≤ n) : Src w (.slice A m c') (bs.take m) := by
  have hn := h.len
  have hl : (bs.take m).length = m := by rw [List.length_take]; omega
  refine ⟨⟨A, c', by rw [hl], fun j hj => ?_⟩, by have := h.small; omega, fun x hx => h.lt x (List.mem_of_mem_take hx)⟩
  obtain ⟨ad, hA, hx⟩ := h.at_ (k := j) (by omega)
  exact ⟨ad, hA, by rw [hx, List.getElem_take]⟩
/-- a number of 64 bits, with its sign -/
def sg (V : Nat) : Int := IntKind.i64.wrap (V : Int)
theorem sg_fits (V : Nat) : -9223372036854775808 ≤ sg V ∧ sg V ≤ 9223372036854775807 := by
  unfold sg
  rw [IntKind.wrap_i64]
  omega
def TkR (w : World) (g : Nat) (a : Addr) (V m n c : Nat) (e : Ending) (w' : World) : Prop :=
  ∃ A', e = .returned (iv (sg V)) ∧ Box w' g 29 #[.slice A' (n - m) (c - m)] ∧ (m < c → A' = some (a.add m)) ∧ Only (Just g) w w'
set_option maxHeartbeats 4000000 in
theorem take_any {w : World} {g n c : Nat} {ad : Addr} {bs : List Nat} (m : Nat) (hB : Box w g 29 #[.slice (some ad) n c]) (hs : Src w (.slice (some ad) n c) bs) (hm : m ≤ 8) (h0 : 0 < m) (hmn : m ≤ n) (hnc : n ≤ c) :
    Calls Tryd.prog 20 #[iv m, .pointer (some ⟨g, 0, none⟩)] w fun e w' => TkR w g ad (vl (bs.take m)) m n c e w' := by
  have hsm := hs.small
  have hlen := hs.len
  have hg := hB.cell 0
  have hf := hB.frozen 0
  simp only [List.getElem?_toArray, List.getElem?_cons_zero] at hg
  have HN := Lib.hid (number_any (hs.take m c hmn) (by rw [List.length_take]; omega))
  generalize vl (bs.take m) = V at *
  have hwr : IntKind.i64.wrap (V : Int) = sg V := rfl
  have hmci : (m : Int) ≤ (c : Int) := by omega
  have hmni2 : (m : Int) ≤ (n : Int) := by omega
  have hnm : (n : Int) - (m : Int) = ((n - m : Nat) : Int) := by omega
  have hm0 : ¬ m = 0 := by omega
  have HB := Lib.hid hB
  clear hs hlen hB
  by_cases hmc : m = c
  · subst hmc
    obtain rfl : n = m := by omega
    have hR : Hid (∀ A', TkR w g ad V n n n (.returned (iv (sg V))) (w.setCell ⟨g, 0, none⟩ (.slice A' 0 0))) := Lib.hid (fun A' =>
      ⟨A', rfl, by rw [Nat.sub_self]; exact HB.out.put 0 _, fun h => absurd h (by omega), (Only.refl (Just g) w).setCell (p := ⟨g, 0, none⟩) (.inl rfl) _⟩)
    go_enter Tryd.func20, Tryd.ntmps20
    go_wp2_with fail
    refine (HN.out).mono ?_
    rintro e w2 ⟨rfl, rfl⟩
    go_wp2
    go_ret
    exact hR.out _
  · have hR : Hid (TkR w g ad V m n c (.returned (iv (sg V))) (w.setCell ⟨g, 0, none⟩ (.slice (some (ad.add m)) (n - m) (c - m)))) := Lib.hid
      ⟨_, rfl, HB.out.put 0 _, fun _ => rfl, (Only.refl (Just g) w).setCell (p := ⟨g, 0, none⟩) (.inl rfl) _⟩
    have hmc2 : ¬ (m : Int) = (c : Int) := by omega
    have hmc3 : ¬ c = m := by omega
    have hmc4 : ¬ (c : Int) = (m : Int) := by omega
    go_enter Tryd.func20, Tryd.ntmps20
    go_wp2_with fail
    refine (HN.out).mono ?_
    rintro e w2 ⟨rfl, rfl⟩
    go_wp2
    go_ret
    exact hR.out
/-- cells of numbers -/
def mkA (M : Nat) (f : Nat → Int) : Array Value := ((List.range M).map fun i => iv (f i)).toArray
def upd (f : Nat → Int) (i : Nat) (x : Int) (j : Nat) : Int := if j = i then x else f j
theorem mkA_put (M : Nat) (f : Nat → Int) (i : Nat) (x : Int) : (mkA M f).setIfInBounds i (iv x) = mkA M (upd f i x) := by
  apply Array.ext_getElem?
  intro j
  unfold mkA upd
  by_cases hj : j = i
  · subst hj
    by_cases hl : j < M
    · rw [Array.getElem?_setIfInBounds_self_of_lt (by simpa using hl)]
      simp [hl]
    · rw [Array.getElem?_eq_none (by simp; omega), Array.getElem?_eq_none (by simp; omega)]
  · rw [Array.getElem?_setIfInBounds_ne (Ne.symm hj)]
    simp [List.getElem?_map]
    by_cases hl : j < M
    · simp [hl, hj]
    · simp [hl]
theorem mkA_get {M : Nat} {f : Nat → Int} {i : Nat} (h : i < M) : (mkA M f)[i]? = some (iv (f i)) := by
  unfold mkA
  simp [h]
theorem mkA_zero (N : Nat) : madeCells #[iv 0, iv 0, iv 0] (N * 3) = mkA (N * 3) (fun _ => 0) := by
  apply Array.ext_getElem?
  intro j
  by_cases hj : j < N * 3
  · rw [mkA_get hj]
    unfold madeCells
    rw [Array.getElem?_eq_getElem (by simpa using hj)]
    simp
    have h3 : j % 3 < 3 := Nat.mod_lt _ (by decide)
    rcases (show j % 3 = 0 ∨ j % 3 = 1 ∨ j % 3 = 2 by omega) with h | h | h <;> simp [h]
  · rw [Array.getElem?_eq_none (by unfold madeCells; simp; omega), Array.getElem?_eq_none (by unfold mkA; simp; omega)]
theorem make_points (u : World) (N : Nat) (hN : N ≤ 1000000) :
    (Go.Instr.makeSlice 42 (.int .i64 (N : Int)) (.int .i64 (N : Int))).run Tryd.prog u = .ok (.slice (some ⟨u.heap.size, 0, none⟩) N N) (u.alloc (.cells (mkA (N * 3) (fun _ => 0)) 46)) := by
  obtain ⟨i0, hi, hz⟩ : ∃ i0, Tryd.prog.info? 46 = some i0 ∧ (i0.zero, i0.size, i0.bytes) = (some (.agg #[iv 0, iv 0, iv 0]), 3, 24) := by
    refine ⟨_, rfl, ?_⟩
    kernel_rfl
  simp only [Prod.mk.injEq] at hz
  obtain ⟨hz0, hz1, hz2⟩ := hz
  have h3 := run_make u 42 46 i0 _ Tryd.underlying42 hi hz0 .i64 .i64 N N (by omega) (by omega) (by rw [hz2]; omega) (by omega)
  rw [hz1, Int.toNat_natCast] at h3
  rw [h3, ← mkA_zero]
  rfl
/-- the k-th point that bytes are -/
def ptOf (bs : List Nat) (k : Nat) : Pt := (sg (vl ((bs.drop (18 * k)).take 8)), sg (vl ((bs.drop (18 * k + 8)).take 8)), sg (vl ((bs.drop (18 * k + 16)).take 2)))
def rdT (bs : List Nat) : List Pt := (List.range (bs.length / 18)).map (ptOf bs)
def psE (bs : List Nat) : Int := if bs.length % 18 = 0 then orE (rdT bs) else 12
def psL (bs : List Nat) : List Pt := if psE bs = 0 then rdT bs else []
/-- what Points answers -/
def PsR (w : World) (bs : List Nat) (e : Ending) (w' : World) : Prop := ∃ v, e = .returned (.tuple #[v, iv (psE bs)]) ∧ TSrc w' v (psL bs) ∧ Only Nix w w'
theorem ptOf_fits (bs : List Nat) (k : Nat) : F3 (ptOf bs k) := ⟨sg_fits _, sg_fits _, sg_fits _⟩
theorem rdT_len (bs : List Nat) : (rdT bs).length = bs.length / 18 := by unfold rdT; simp
theorem rdT_src {w : World} {g : Nat} {f : Nat → Int} {bs : List Nat} (hB : Box w g 46 (mkA (bs.length / 18 * 3) f)) (hf : ∀ k, k < bs.length / 18 → f (k * 3) = (ptOf bs k).1 ∧ f (k * 3 + 1) = (ptOf bs k).2.1 ∧ f (k * 3 + 2) = (ptOf bs k).2.2) (hs : bs.length ≤ 100000) :
    TSrc w (.slice (some ⟨g, 0, none⟩) (bs.length / 18) (bs.length / 18)) (rdT bs) := by
  refine TSrc.of_cells (rdT_len bs) (Nat.le_refl _) (fun j hj => ?_) (by rw [rdT_len]; omega) (fun p hp => ?_)
  · rw [rdT_len] at hj
    obtain ⟨f0, f1, f2⟩ := hf j hj
    have e : (rdT bs)[j]'(by rw [rdT_len]; exact hj) = ptOf bs j := by unfold rdT; simp
    rw [e, hB.cell, hB.cell, hB.cell, mkA_get (by omega), mkA_get (by omega), mkA_get (by omega), f0, f1, f2]
    exact ⟨rfl, rfl, rfl⟩
  · unfold rdT at hp
    obtain ⟨k, _, rfl⟩ := List.mem_map.1 hp
    exact ptOf_fits bs k
def PtF (bs : List Nat) (j : Nat) (f : Nat → Int) : Prop := ∀ k, k < j → f (k * 3) = (ptOf bs k).1 ∧ f (k * 3 + 1) = (ptOf bs k).2.1 ∧ f (k * 3 + 2) = (ptOf bs k).2.2
theorem PtF.one {bs : List Nat} {j : Nat} {f : Nat → Int} (h : PtF bs j f) : PtF bs (j + 1) (upd (upd (upd f (j * 3) (ptOf bs j).1) (j * 3 + 1) (ptOf bs j).2.1) (j * 3 + 2) (ptOf bs j).2.2) := by
  intro k hk
  rcases Nat.lt_succ_iff_lt_or_eq.1 hk with h3 | rfl
  · obtain ⟨f0, f1, f2⟩ := h k h3
    unfold upd
    refine ⟨?_, ?_, ?_⟩
    all_goals
      rw [if_neg (by omega), if_neg (by omega), if_neg (by omega)]
      assumption
  · unfold upd
    refine ⟨?_, ?_, ?_⟩
    · rw [if_neg (by omega), if_neg (by omega), if_pos rfl]
    · rw [if_neg (by omega), if_pos rfl]
    · rw [if_pos rfl]
/-- what is left of the bytes -/
def Left (bs : List Nat) (A : Option Addr) (c p : Nat) (v : Value) : Prop := ∃ A', v = .slice A' (bs.length - p) (c - p) ∧ ∀ ad, A = some ad → p < c → A' = some (ad.add p)
def PsI (w : World) (_W3 : World) (g0 g2 : Nat) (bs : List Nat) (A : Option Addr) (c : Nat) (s19 : Value) (wr : World) : Prop :=
  ∃ (j : Nat) (f : Nat → Int) (v : Value), j ≤ bs.length / 18 ∧ s19 = iv j ∧ Box wr g0 29 #[v] ∧ Left bs A c (18 * j) v ∧ Box wr g2 46 (mkA (bs.length / 18 * 3) f) ∧ PtF bs j f ∧ Only Nix w wr
end Go.Proofs.YtighdjbeddcckaaDoor
