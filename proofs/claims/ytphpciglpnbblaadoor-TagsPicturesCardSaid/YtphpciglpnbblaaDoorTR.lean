/-
  The reader of tags: take, low, number.
-/
import Derived.Test.YtphpciglpnbblaaDoorTW
namespace Go.Proofs.YtphpciglpnbblaaDoor
open Go.RowKit Go.Shelf

/-- where a piece of a slice lies -/
def cutA (A : Option Addr) (c i : Nat) : Option Addr := if c = i then A else A.map (·.add i)
theorem elem_byte : Tryd.prog.elem 25 = 5 := by simp [Program.elem, Tryd.underlying25]
theorem size_byte (u : World) : (sizeOf 5).run Tryd.prog u = .ok 1 u := by kernel_rfl
theorem slice_from (A : Option Addr) (n c s : Nat) (hs : s ≤ n) (u : World) : (Instr.slice 25 (.slice A n c) (some (.int .i64 (s : Int))) none none).run Tryd.prog u = .ok (.slice (cutA A c s) (n - s) (c - s)) u := by
  rw [run_slice_l u 25 A n c (by rw [elem_byte]; exact Tryd.underlying25) .i64 s (by omega) (by omega), elem_byte, size_byte]
  simp [Result.andThen, sliced, cutA]
theorem slice_win (A : Option Addr) (n c i h : Nat) (hi : i ≤ h) (hh : h ≤ c) (u : World) : (Instr.slice 25 (.slice A n c) (some (.int .i64 (i : Int))) (some (.int .i64 (h : Int))) none).run Tryd.prog u = .ok (.slice (cutA A c i) (h - i) (c - i)) u := by
  rw [run_slice_lh u 25 A n c (by rw [elem_byte]; exact Tryd.underlying25) .i64 .i64 i h (by omega) (by omega) (by omega), elem_byte, size_byte]
  simp [Result.andThen, sliced, cutA]
theorem csrc_win {w : World} {A : Option Addr} {n c : Nat} {bs : List Nat} (h : CSrc w (.slice A n c) bs) (i m : Nat) (him : i + m ≤ n) : CSrc w (.slice (cutA A c i) m (c - i)) ((bs.drop i).take m) := by
  have hn := h.src.len
  have hc := h.cap _ _ _ rfl
  have hl : ((bs.drop i).take m).length = m := by rw [List.length_take, List.length_drop]; omega
  refine ⟨⟨⟨cutA A c i, c - i, by rw [hl], fun j hj => ?_⟩, by have := h.src.small; omega, fun x hx => h.src.lt x (List.mem_of_mem_drop (List.mem_of_mem_take hx))⟩, fun _ _ _ e => by injection e with _ e2 e3; omega⟩
  rw [hl] at hj
  obtain ⟨ad, rfl, hx⟩ := h.src.at_ (k := i + j) (by omega)
  have hci : ¬ c = i := by omega
  refine ⟨ad.add i, by unfold cutA; rw [if_neg hci]; rfl, ?_⟩
  rw [add_add, hx, List.getElem_take, List.getElem_drop]
theorem csrc_from {w : World} {A : Option Addr} {n c : Nat} {bs : List Nat} (h : CSrc w (.slice A n c) bs) (s : Nat) (hs : s ≤ n) : CSrc w (.slice (cutA A c s) (n - s) (c - s)) (bs.drop s) := by
  have hn := h.src.len
  have h2 := csrc_win h s (n - s) (by omega)
  rwa [List.take_of_length_le (by rw [List.length_drop]; omega)] at h2
/-- a slice from its beginning -/
theorem slice_to (A : Option Addr) (n c h : Nat) (hh : h ≤ c) (u : World) : (Instr.slice 25 (.slice A n c) none (some (.int .i64 (h : Int))) none).run Tryd.prog u = .ok (.slice A h c) u := by
  rw [run_slice_h u 25 A n c (by rw [elem_byte]; exact Tryd.underlying25) .i64 h (by omega) (by omega), elem_byte, size_byte]
  cases A <;> simp [Result.andThen, sliced, Addr.add]
theorem csrc_to {w : World} {A : Option Addr} {n c : Nat} {bs : List Nat} (h : CSrc w (.slice A n c) bs) (m : Nat) (hm : m ≤ n) : CSrc w (.slice A m c) (bs.take m) := by
  have hc := h.cap _ _ _ rfl
  exact ⟨h.src.take m c hm, fun _ _ _ e => by injection e with _ e2 e3; omega⟩
/-- what is taken, and what is left -/
def tkB (m : Nat) (rest : List Nat) : List Nat := if rest.length < m then [] else rest.take m
def tkR (m : Nat) (rest : List Nat) : List Nat := if rest.length < m then rest else rest.drop m
/-- a reader: what is left, whether bytes ran out, whether something was off -/
structure Rd (w : World) (b : Nat) (rest : List Nat) (sh off : Bool) : Prop where
  ex : ∃ v, Box w b 62 #[v, .bool sh, .bool off] ∧ CSrc w v rest ∧ (0 < rest.length → ∀ ad n c, v = .slice (some ad) n c → ad.block < b)
theorem Rd.lt {w : World} {b : Nat} {rest : List Nat} {sh off : Bool} (h : Rd w b rest sh off) : b < w.heap.size := by
  obtain ⟨v, hb, _⟩ := h.ex
  exact hb.lt
theorem csrc_off {F : Nat → Prop} {w w' : World} {v : Value} {bs : List Nat} (h : CSrc w v bs) (ho : Only F w w') (hF : 0 < bs.length → ∀ ad n c, v = .slice (some ad) n c → ¬ F ad.block) : CSrc w' v bs := by
  by_cases h0 : 0 < bs.length
  · exact ⟨h.src.only ho (fun i hi hf ad n c e => fun e2 => hF h0 ad n c e (e2 ▸ hf)), h.cap⟩
  · have : bs = [] := List.eq_nil_of_length_eq_zero (by omega)
    subst this
    obtain ⟨A, c, rfl, _⟩ := h.form
    exact ⟨⟨⟨A, c, rfl, fun j hj => by simp at hj⟩, by simp, by simp⟩, h.cap⟩
theorem Rd.nix {w w' : World} {b : Nat} {rest : List Nat} {sh off : Bool} (h : Rd w b rest sh off) (ho : Only Nix w w') : Rd w' b rest sh off := by
  obtain ⟨v, hb, hs, ha⟩ := h.ex
  exact ⟨v, hb.only ho (fun e => e), hs.nix ho, ha⟩
theorem Rd.up {F : Nat → Prop} {w w' : World} {b : Nat} {rest : List Nat} {sh off : Bool} (h : Rd w b rest sh off) (ho : Only F w w') (hF : ∀ k, F k → b < k) : Rd w' b rest sh off := by
  obtain ⟨v, hb, hs, ha⟩ := h.ex
  exact ⟨v, hb.only ho (fun e => Nat.lt_irrefl _ (hF b e)), csrc_off hs ho (fun h0 ad n c e hf => by have := hF _ hf; have := ha h0 ad n c e; omega), ha⟩
theorem Rd.small {w : World} {b : Nat} {rest : List Nat} {sh off : Bool} (h : Rd w b rest sh off) : rest.length ≤ 140737488355328 ∧ ∀ x ∈ rest, x < 256 := by
  obtain ⟨v, hb, hs, ha⟩ := h.ex
  exact ⟨hs.src.small, hs.src.lt⟩
/-- what a reader is when a call takes from it -/
def TkR (w : World) (b m : Nat) (rest : List Nat) (sh off : Bool) (e : Ending) (w' : World) : Prop :=
  (∃ v, e = .returned v ∧ CSrc w' v (tkB m rest) ∧ (0 < (tkB m rest).length → ∀ ad n c, v = .slice (some ad) n c → ad.block < b)) ∧ Rd w' b (tkR m rest) (sh || decide (rest.length < m)) off ∧ Only (Just b) w w'
set_option maxHeartbeats 2000000 in
theorem take_any {w : World} {b m : Nat} {rest : List Nat} {sh off : Bool} (h : Rd w b rest sh off) (hm : m ≤ 4611686018427387904) :
    Calls Tryd.prog 51 #[.pointer (some ⟨b, 0, none⟩), iv m] w fun e w' => TkR w b m rest sh off e w' := by
  obtain ⟨v, hb, hs, ha⟩ := h.ex
  obtain ⟨A, c, rfl, hcap⟩ := hs.form
  have hsm := hs.src.small
  have c0 := hb.cell 0
  have c1 := hb.cell 1
  have z0 := hb.frozen 0
  have z1 := hb.frozen 1
  simp only [List.getElem?_toArray, List.getElem?_cons_zero, List.getElem?_cons_succ] at c0 c1
  by_cases hlt : rest.length < m
  · have hli : (rest.length : Int) < (m : Int) := by omega
    have HF : Hid (TkR w b m rest sh off (.returned (.slice none 0 0)) (w.setCell ⟨b, 1, none⟩ (.bool true))) := Lib.hid (by
      have ho := (Only.refl (Just b) w).setCell (p := ⟨b, 1, none⟩) (.inl rfl) (.bool true)
      refine ⟨⟨_, rfl, by unfold tkB; rw [if_pos hlt]; exact CSrc.nil _, fun h0 => by unfold tkB at h0; rw [if_pos hlt] at h0; simp at h0⟩, ⟨⟨.slice A rest.length c, ?_, ?_, ?_⟩⟩, ho⟩
      · rw [decide_eq_true hlt, Bool.or_true]
        exact hb.put 1 (.bool true)
      · unfold tkR
        rw [if_pos hlt]
        exact csrc_off hs ho (fun h0 ad n c e => Nat.ne_of_lt (ha h0 ad n c e))
      · unfold tkR
        rw [if_pos hlt]
        exact ha)
    clear hb hs ha h
    go_enter Tryd.func51, Tryd.ntmps51
    go_wp2
    go_ret
    exact HF.out
  · have hli : ¬ (rest.length : Int) < (m : Int) := by omega
    have hs1 := slice_to A rest.length c m (by omega)
    have hs2 := slice_from A rest.length c m (by omega)
    have HF : Hid (TkR w b m rest sh off (.returned (.slice A m c)) (w.setCell ⟨b, 0, none⟩ (.slice (cutA A c m) (rest.length - m) (c - m)))) := Lib.hid (by
      have ho := (Only.refl (Just b) w).setCell (p := ⟨b, 0, none⟩) (.inl rfl) (.slice (cutA A c m) (rest.length - m) (c - m))
      refine ⟨⟨_, rfl, ?_, ?_⟩, ⟨⟨.slice (cutA A c m) (rest.length - m) (c - m), ?_, ?_, ?_⟩⟩, ho⟩
      · unfold tkB
        rw [if_neg hlt]
        refine csrc_off (csrc_to hs m (by omega)) ho (fun h0 ad n c e => ?_)
        rw [List.length_take] at h0
        injection e with e _ _
        exact Nat.ne_of_lt (ha (by omega) ad rest.length _ (by rw [e]))
      · unfold tkB
        rw [if_neg hlt, List.length_take]
        intro h0 ad n c e
        injection e with e _ _
        exact ha (by omega) ad rest.length _ (by rw [e])
      · rw [decide_eq_false hlt, Bool.or_false]
        exact hb.put 0 _
      · unfold tkR
        rw [if_neg hlt]
        refine csrc_off (csrc_from hs m (by omega)) ho (fun h0 ad n c e => ?_)
        rw [List.length_drop] at h0
        injection e with e _ _
        unfold cutA at e
        rw [if_neg (by omega)] at e
        cases A with
        | none => cases e
        | some a0 =>
          injection e with e
          rw [← e, add_block]
          exact Nat.ne_of_lt (ha (by omega) a0 _ _ rfl)
      · unfold tkR
        rw [if_neg hlt, List.length_drop]
        intro h0 ad n c' e
        injection e with e _ _
        unfold cutA at e
        rw [if_neg (by omega)] at e
        cases A with
        | none => cases e
        | some a0 =>
          injection e with e
          rw [← e, add_block]
          exact ha (by omega) a0 _ _ rfl)
    generalize cutA A c m = A2 at *
    generalize c - m = c2 at *
    generalize rest.length - m = n2 at *
    clear hb hs ha h
    go_enter Tryd.func51, Tryd.ntmps51
    go_wp2
    go_ret
    exact HF.out
end Go.Proofs.YtphpciglpnbblaaDoor
