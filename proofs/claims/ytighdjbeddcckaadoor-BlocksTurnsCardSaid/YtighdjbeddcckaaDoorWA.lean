/-
  bytes.Trim with one byte: what is left at the end, at the beginning.
-/
import Derived.Test.YtighdjbeddcckaaDoorVC
namespace Go.Proofs.YtighdjbeddcckaaDoor
open Go.RowKit Go.Shelf

def cutA (A : Option Addr) (c i : Nat) : Option Addr := if c = i then A else A.map (·.add i)
theorem elem_byte : Tryd.prog.elem 29 = 5 := by simp [Program.elem, Tryd.underlying29]
theorem size_byte (u : World) : (sizeOf 5).run Tryd.prog u = .ok 1 u := by kernel_rfl
theorem slice_from (A : Option Addr) (n c s : Nat) (hs : s ≤ n) (u : World) : (Instr.slice 29 (.slice A n c) (some (.int .i64 (s : Int))) none none).run Tryd.prog u = .ok (.slice (cutA A c s) (n - s) (c - s)) u := by
  rw [run_slice_l u 29 A n c (by rw [elem_byte]; exact Tryd.underlying29) .i64 s (by omega) (by omega), elem_byte, size_byte]
  simp [Result.andThen, sliced, cutA]
theorem slice_win (A : Option Addr) (n c i h : Nat) (hi : i ≤ h) (hh : h ≤ c) (u : World) : (Instr.slice 29 (.slice A n c) (some (.int .i64 (i : Int))) (some (.int .i64 (h : Int))) none).run Tryd.prog u = .ok (.slice (cutA A c i) (h - i) (c - i)) u := by
  rw [run_slice_lh u 29 A n c (by rw [elem_byte]; exact Tryd.underlying29) .i64 .i64 i h (by omega) (by omega) (by omega), elem_byte, size_byte]
  simp [Result.andThen, sliced, cutA]
theorem csrc_win {w : World} {A : Option Addr} {n c : Nat} {bs : List Nat} (h : CSrc w (.slice A n c) bs) (i m : Nat) (him : i + m ≤ n) : CSrc w (.slice (cutA A c i) m (c - i)) ((bs.drop i).take m) := by
  have hn := h.src.len
  have hc := h.cap _ _ _ rfl
  have hl : ((bs.drop i).take m).length = m := by rw [List.length_take, List.length_drop]; omega
  refine ⟨⟨⟨cutA A c i, c - i, by rw [hl], fun j hj => ?_⟩, by have := h.src.small; omega, fun x hx => h.src.lt x (List.mem_of_mem_drop (List.mem_of_mem_take hx))⟩, fun _ _ _ e => by injection e with _ e2 e3; omega⟩
  rw [hl] at hj
  obtain ⟨ad, rfl, hx⟩ := h.src.at_ (k := i + j) (by omega)
  have hci : ¬ c = i := by omega
  refine ⟨ad.add i, by unfold cutA; rw [if_neg hci]; rfl, ?_⟩
  rw [add_add, hx, List.getElem_take, List.getElem_drop]
theorem csrc_from {w : World} {A : Option Addr} {n c : Nat} {bs : List Nat} (h : CSrc w (.slice A n c) bs) (s : Nat) (hs : s ≤ n) : CSrc w (.slice (cutA A c s) (n - s) (c - s)) (bs.drop s) := by
  have hn := h.src.len
  have h2 := csrc_win h s (n - s) (by omega)
  rwa [List.take_of_length_le (by rw [List.length_drop]; omega)] at h2
theorem slice_to (A : Option Addr) (n c h : Nat) (hh : h ≤ c) (hc : 0 < c) (u : World) : (Instr.slice 29 (.slice A n c) none (some (.int .i64 (h : Int))) none).run Tryd.prog u = .ok (.slice A h c) u := by
  rw [run_slice_h u 29 A n c (by rw [elem_byte]; exact Tryd.underlying29) .i64 h (by omega) (by omega), elem_byte, size_byte]
  cases A with
  | none => simp [Result.andThen, sliced]
  | some ad =>
    simp [Result.andThen, sliced]
    intro _
    rfl
/-- m bytes are left when the noughts behind are struck -/
def RT (bs : List Nat) (m : Nat) : Prop := m ≤ bs.length ∧ (∀ j, m ≤ j → j < bs.length → bs.getD j 0 = 0) ∧ (m = 0 ∨ bs.getD (m - 1) 0 ≠ 0)
/-- k bytes are noughts ahead -/
def LT (bs : List Nat) (k : Nat) : Prop := k ≤ bs.length ∧ (∀ j, j < k → bs.getD j 0 = 0) ∧ (k = bs.length ∨ bs.getD k 0 ≠ 0)
theorem rt_ex (bs : List Nat) : ∃ m, RT bs m := by
  have key : ∀ n, n ≤ bs.length → (∀ j, n ≤ j → j < bs.length → bs.getD j 0 = 0) → ∃ m, RT bs m := by
    intro n
    induction n with
    | zero => intro h h0; exact ⟨0, h, h0, .inl rfl⟩
    | succ n ih =>
      intro h h0
      by_cases hz : bs.getD n 0 = 0
      · exact ih (by omega) (fun j h1 h2 => by
          by_cases e : j = n
          · rw [e]; exact hz
          · exact h0 j (by omega) h2)
      · exact ⟨n + 1, h, h0, .inr hz⟩
  exact key bs.length (Nat.le_refl _) (fun j h1 h2 => by omega)
theorem lt_ex (bs : List Nat) : ∃ k, LT bs k := by
  have key : ∀ n k, k + n = bs.length → (∀ j, j < k → bs.getD j 0 = 0) → ∃ k, LT bs k := by
    intro n
    induction n with
    | zero => intro k h h0; exact ⟨k, by omega, h0, .inl (by omega)⟩
    | succ n ih =>
      intro k h h0
      by_cases hz : bs.getD k 0 = 0
      · exact ih (k + 1) (by omega) (fun j h1 => by
          by_cases e : j = k
          · rw [e]; exact hz
          · exact h0 j (by omega))
      · exact ⟨k, by omega, h0, .inr hz⟩
  exact key bs.length 0 (by omega) (fun j h => by omega)
def TrR (W : World) (A : Option Addr) (c m0 n : Nat) (s0 : Value) (wr : World) : Prop := ∃ m, m0 ≤ m ∧ m ≤ n ∧ s0 = .slice A m c ∧ Only Nix W wr
set_option maxRecDepth 100000 in
set_option maxHeartbeats 4000000 in
theorem trimRight_any {w : World} {A : Option Addr} {n c m0 : Nat} {bs : List Nat} (hs : CSrc w (.slice A n c) bs) (hm : RT bs m0) :
    Calls Tryd.prog 28 #[.slice A n c, .int .u8 0] w fun e w' => e = .returned (.slice A m0 c) ∧ Only Nix w w' := by
  have hn := hs.src.len
  have hc := hs.cap _ _ _ rfl
  have hsm := hs.src.small
  have HS := Lib.hid hs
  have HM := Lib.hid hm
  have hm0 : m0 ≤ n := by rw [hn]; exact hm.1
  have HN := Lib.hid hn
  have hn47 : n ≤ 140737488355328 := by omega
  clear hs hm hn hsm
  go_enter Tryd.func28, Tryd.ntmps28
  go_wp2
  go_loopw [0] (fun s0 wr => TrR w A c m0 n s0 wr) (fun s0 _ => match s0 with | .slice _ m _ => m | _ => 0)
  case atStart => exact ⟨n, hm0, Nat.le_refl _, rfl, Only.refl _ _⟩
  case round =>
    obtain ⟨m, h1, h2, rfl, ho⟩ := hrel
    have HO := Lib.hid ho
    by_cases hz : m = 0
    · subst hz
      obtain rfl : m0 = 0 := by omega
      clear ho h1
      go_wp2
      go_ret
      exact ⟨rfl, HO.out⟩
    · obtain ⟨q, rfl⟩ : ∃ q, m = q + 1 := ⟨m - 1, by omega⟩
      have hb : q < bs.length := by have := HN.out; omega
      obtain ⟨ad, rfl, hx⟩ := (HS.out.src.nix ho).at_ hb
      have hx256 := HS.out.src.lt _ (List.getElem_mem hb)
      have hgd : bs.getD q 0 = bs[q] := by rw [List.getD_eq_getElem?_getD, List.getElem?_eq_getElem hb]; rfl
      have Hgd := Lib.hid hgd
      have hq1 : ((q + 1 : Nat) : Int) - 1 = (q : Int) := by omega
      have hqi : (q : Int) < ((q + 1 : Nat) : Int) := by omega
      unfold byt at hx
      by_cases hx0 : bs[q] = 0
      · have hlt : m0 ≤ q := by
          rcases HM.out.2.2 with e | e
          · omega
          · refine Decidable.byContradiction fun hh => e ?_
            rw [show m0 - 1 = q by omega, hgd, hx0]
        have hsl := slice_to (some ad) (q + 1) c q (by omega) (by omega)
        rw [hx0] at hx
        clear hgd hx0 ho
        go_wp2
        exact ⟨⟨q, hlt, by omega, rfl, HO.out⟩, Nat.lt_succ_self q⟩
      · have hst : m0 = q + 1 := by
          refine Decidable.byContradiction fun hh => hx0 ?_
          rw [← hgd]
          exact HM.out.2.1 q (by omega) hb
        subst hst
        generalize bs[q] = x at *
        have hxi : ¬ (x : Int) = 0 := by omega
        clear hgd ho
        go_wp2
        go_ret
        exact ⟨rfl, HO.out⟩
def TlR (W : World) (n k0 : Nat) (bs : List Nat) (s0 : Value) (wr : World) : Prop := ∃ A m d j, j ≤ k0 ∧ m + j = n ∧ s0 = .slice A m d ∧ CSrc wr (.slice A m d) (bs.drop j) ∧ Only Nix W wr
set_option maxRecDepth 100000 in
set_option maxHeartbeats 4000000 in
theorem trimLeft_any {w : World} {A : Option Addr} {n c k0 : Nat} {bs : List Nat} (hs : CSrc w (.slice A n c) bs) (hm : LT bs k0) :
    Calls Tryd.prog 27 #[.slice A n c, .int .u8 0] w fun e w' => (∃ B m d, e = .returned (.slice B m d) ∧ m + k0 = n) ∧ Only Nix w w' := by
  have hn := hs.src.len
  have hsm := hs.src.small
  have HS := Lib.hid hs
  have HM := Lib.hid hm
  have hm0 : k0 ≤ n := by rw [hn]; exact hm.1
  have HN := Lib.hid hn
  have hn47 : n ≤ 140737488355328 := by omega
  clear hs hm hn hsm
  go_enter Tryd.func27, Tryd.ntmps27
  go_wp2
  go_loopw [0] (fun s0 wr => TlR w n k0 bs s0 wr) (fun s0 _ => match s0 with | .slice _ m _ => m | _ => 0)
  case atStart => exact ⟨A, n, c, 0, Nat.zero_le _, rfl, rfl, HS.out, Only.refl _ _⟩
  case round =>
    obtain ⟨B, m, d, j, h1, h2, rfl, hsr, ho⟩ := hrel
    have HO := Lib.hid ho
    have HSr := Lib.hid hsr
    by_cases hz : m = 0
    · subst hz
      obtain rfl : k0 = j := by omega
      have hj : 0 + k0 = n := h2
      clear ho hsr
      go_wp2
      go_ret
      exact ⟨⟨_, _, _, rfl, hj⟩, HO.out⟩
    · obtain ⟨q, rfl⟩ : ∃ q, m = q + 1 := ⟨m - 1, by omega⟩
      have hb : j < bs.length := by have := HN.out; omega
      have hb0 : 0 < (bs.drop j).length := by rw [List.length_drop]; omega
      obtain ⟨ad, rfl, hx⟩ := hsr.src.at_ hb0
      have hqd := hsr.cap _ _ _ rfl
      have hx256 := HS.out.src.lt _ (List.getElem_mem hb)
      have hgd : bs.getD j 0 = bs[j] := by rw [List.getD_eq_getElem?_getD, List.getElem?_eq_getElem hb]; rfl
      have hq0 : (0 : Int) < ((q + 1 : Nat) : Int) := by omega
      have e0 : ad.add 0 = ad := rfl
      unfold byt at hx
      rw [List.getElem_drop, e0] at hx
      simp only [Nat.add_zero] at hx
      by_cases hx0 : bs[j] = 0
      · have hlt : j < k0 := by
          rcases HM.out.2.2 with e | e
          · omega
          · refine Decidable.byContradiction fun hh => e ?_
            rw [show k0 = j by omega, hgd, hx0]
        have hsl : ∀ u, (Instr.slice 29 (.slice (some ad) (q + 1) d) (some (.int .i64 1)) none none).run Tryd.prog u = .ok (.slice (cutA (some ad) d 1) q (d - 1)) u := fun u => slice_from (some ad) (q + 1) d 1 (by omega) u
        have hcs : CSrc wr (.slice (cutA (some ad) d 1) q (d - 1)) ((bs.drop j).drop 1) := csrc_from hsr 1 (by omega)
        rw [List.drop_drop] at hcs
        obtain ⟨X, hX⟩ : ∃ X, cutA (some ad) d 1 = X := ⟨_, rfl⟩
        rw [hX] at hcs hsl
        have HCs := Lib.hid hcs
        have Hj := Lib.hid h2
        rw [hx0] at hx
        obtain ⟨D, hD⟩ : ∃ D, d - 1 = D := ⟨_, rfl⟩
        rw [hD] at hsl HCs
        clear hgd hx0 ho hsr hcs hX hD h2
        go_wp2
        exact ⟨⟨X, q, D, j + 1, hlt, by have := Hj.out; omega, rfl, HCs.out, HO.out⟩, Nat.lt_succ_self q⟩
      · have hst : k0 = j := by
          refine Decidable.byContradiction fun hh => hx0 ?_
          rw [← hgd]
          exact HM.out.2.1 j (by omega)
        subst hst
        have Hj := Lib.hid h2
        generalize bs[k0] = x at *
        have hxi : ¬ (x : Int) = 0 := by omega
        clear hgd ho hsr h2
        go_wp2
        go_ret
        exact ⟨⟨_, _, _, rfl, Hj.out⟩, HO.out⟩
end Go.Proofs.YtighdjbeddcckaaDoor
