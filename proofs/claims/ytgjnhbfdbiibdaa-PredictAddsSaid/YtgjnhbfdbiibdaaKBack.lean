/-
  backwards: the iterator over samples, the last one first.
-/
import Derived.Test.YtgjnhbfdbiibdaaKSrc
namespace Go.Proofs.Ytgjnhbfdbiibdaa
open Go.RowKit Go.Shelf
attribute [local go_sem] Oper.semAt_some

/-- blocks ahead of N but z are as they were -/
def KeepN (N z : Nat) (W W' : World) : Prop := ∀ k, k < N → k ≠ z → W'.heap[k]? = W.heap[k]?
theorem KeepN.t {N z : Nat} {X Y Z : World} (h : KeepN N z X Y) (k : KeepN N z Y Z) : KeepN N z X Z := fun i h1 h2 => (k i h1 h2).trans (h i h1 h2)
theorem KeepN.refl (N z : Nat) (X : World) : KeepN N z X X := fun _ _ _ => rfl
theorem KeepN.b {N z : Nat} {w : World} (hN : N ≤ w.heap.size) (W : World) (l : Nat) (o o' : Obj) (hl : w.heap.size ≤ l) (_ : W.heap[l]? = some o) (_ : o.isCells = false) (_ : o.isWalk = false) : KeepN N z W (W.putObj l o') :=
  fun k h1 _ => World.putObj_heap_other (by omega)
/-- a sample as it comes -/
def backE (ys : List Int) (k : Fin ys.length) : Array Value := #[iv (k.val : Int), iv (ys.getD (ys.length - 1 - k.val) 0)]

set_option maxRecDepth 100000 in
set_option maxHeartbeats 2000000 in
theorem backs1_in (l N z D c : Nat) (A : Option Addr) (ys : List Int) (J Jx : List (Fin ys.length) → World → Prop)
    (hY : ∀ pre x W, J pre W → pre.length < ys.length → YieldAt Fence.wide 2 Try.prog l (backE ys x) W fun e W' =>
      (e = .returned (.bool true) ∧ J (pre ++ [x]) W' ∧ KeepN N z W W') ∨ (e = .returned (.bool false) ∧ Jx (pre ++ [x]) W'))
    (W : World) (hD : D < N) (hDz : D ≠ z) (hb : Box W D 22 #[.slice A ys.length c]) (hs : ISrc W (.slice A ys.length c) ys)
    (hsb : ∀ ad, A = some ad → 0 < ys.length → ad.block < N ∧ ad.block ≠ z) (h0 : J [] W) :
    CallsIn Fence.wide 3 Try.prog 28 (#[.func (.yield l) #[] #[]] ++ #[.pointer (some ⟨D, 0, none⟩)]) W fun e W' => (∃ v, e = .returned v) ∧
      ((∃ ps : List (Fin ys.length), ps.map Fin.val = List.range ys.length ∧ J ps W') ∨ (∃ pre : List (Fin ys.length), (∃ k, k ≤ ys.length ∧ pre.map Fin.val = List.range k) ∧ Jx pre W')) := by
  have hsm := hs.small
  have d0 := hb.cell 0
  simp only [List.getElem?_toArray, List.getElem?_cons_zero] at d0
  have HB := Lib.hid hb
  have HS := Lib.hid hs
  obtain ⟨n, hn⟩ : ∃ n, ys.length = n := ⟨_, rfl⟩
  have HN := Lib.hid hn
  have hsm2 : n ≤ 140737488355328 := by omega
  clear hb hs hsm
  refine callsIn_of_wp Try.func28 rfl trivial ?_ rfl
  simp only [Try.ntmps28, List.size_toArray, List.length_cons, List.length_nil, Nat.reduceAdd, Nat.reduceSub, Array.replicate_succ, Array.replicate_zero, List.push_toArray, List.append_toArray, List.nil_append, List.cons_append]
  rw [hn] at d0
  gi_wp2
  gi_loopw [6] (fun s6 wr => ∃ k : Nat, k ≤ ys.length ∧ s6 = iv k ∧ (∃ pre : List (Fin ys.length), pre.map Fin.val = List.range k ∧ J pre wr) ∧ KeepN N z W wr)
    (fun s6 _ => ys.length - (intOf s6).toNat)
  case atStart => exact ⟨0, Nat.zero_le _, rfl, ⟨[], rfl, h0⟩, KeepN.refl _ _ _⟩
  case round =>
    obtain ⟨k, hk, rfl, ⟨pre, hpre, hJs⟩, hK⟩ := hrel
    have e0 : wr.cell? ⟨D, 0, none⟩ = some (.slice A n c) := by rw [World.cell?_of_block (w := W) (hK D hD hDz)]; exact d0
    by_cases hlt : k < n
    · have hltx : k < ys.length := by rw [HN.out]; exact hlt
      have hlen : pre.length = k := by have := congrArg List.length hpre; simpa using this
      obtain ⟨fn, tmps, assign, body, hy, hR⟩ := hY pre ⟨k, hltx⟩ wr hJs (by omega)
      have hs2 : ISrc wr (.slice A ys.length c) ys := HS.out.same (fun ad n' c' e h1 => by
        injection e with e1 e2 _
        obtain ⟨h2, h3⟩ := hsb ad e1 (by omega)
        exact hK ad.block h2 h3)
      obtain ⟨ad, rfl, hx⟩ := hs2.at_ (k := ys.length - 1 - k) (by omega)
      have eg : ys.getD (ys.length - 1 - k) 0 = ys[ys.length - 1 - k]'(by omega) := by rw [List.getD_eq_getElem?_getD, List.getElem?_eq_getElem (by omega)]; rfl
      rw [← eg] at hx
      unfold backE at hy
      dsimp only at hy
      have hft := HS.out.fits (ys.getD (ys.length - 1 - k) 0) (by rw [eg]; exact List.getElem_mem _)
      generalize ys.getD (ys.length - 1 - k) 0 = y at *
      rw [HN.out] at hx
      obtain ⟨q, hq⟩ : ∃ q, n - 1 - k = q := ⟨_, rfl⟩
      rw [hq] at hx
      have hq2 : (n : Int) - 1 - (k : Int) = (q : Int) := by omega
      have hqn : q < n := by omega
      have hqni : (q : Int) < (n : Int) := by omega
      have hlt2 : (k : Int) < (n : Int) := by omega
      clear eg hs2 hq hn
      gi_wp2
      refine hR.mono ?_
      rintro e W3 (⟨rfl, hJ3, hk3⟩ | ⟨rfl, hJx3⟩)
      · gi_wp2
        go_roundw
        case rel => exact ⟨k + 1, hltx, by go_num, ⟨pre ++ [⟨k, hltx⟩], by rw [List.map_append, hpre, List.range_succ]; rfl, hJ3⟩, hK.t hk3⟩
        case measure => simp [intOf]; omega
      · gi_wp2
        refine bodyPost_ret (results_none rfl _ _ _) rfl ?_
        exact ⟨⟨_, rfl⟩, .inr ⟨_, ⟨k + 1, hltx, by rw [List.map_append, hpre, List.range_succ]; rfl⟩, hJx3⟩⟩
    · obtain rfl : k = n := by omega
      gi_wp2
      go_end0
      exact ⟨⟨_, rfl⟩, .inl ⟨_, by rw [hpre, HN.out], hJs⟩⟩

/-- backwards' answer: each sample, the last one first -/
theorem backs_stops {N z D c : Nat} {A : Option Addr} {ys : List Int} {w : World} (hN : N ≤ w.heap.size) (hD : D < N) (hDz : D ≠ z) (hb : Box w D 22 #[.slice A ys.length c]) (hs : ISrc w (.slice A ys.length c) ys)
    (hsb : ∀ ad, A = some ad → 0 < ys.length → ad.block < N ∧ ad.block ≠ z) :
    SeqStopsK Fence.wide 3 Try.prog 28 #[.pointer (some ⟨D, 0, none⟩)] (backE ys) (KeepN N z) (fun ps => ps.map Fin.val = List.range ys.length) (fun pre => ∃ k, k ≤ ys.length ∧ pre.map Fin.val = List.range k) ys.length w :=
  fun l J Jx W hW _ _ hY h0 => backs1_in l N z D c A ys J Jx hY W hD hDz ((hW.block D (by omega)).trans hb) (hs.same (fun ad n' c' e h1 => by
    injection e with e1 e2 _
    exact hW.block ad.block (Nat.lt_of_lt_of_le (hsb ad e1 (by omega)).1 hN))) hsb h0

set_option maxHeartbeats 1000000 in
theorem backwards_any {w : World} (v : Value) (A : Option Addr) (n c : Nat) (hv : v = .slice A n c) :
    Calls Try.prog 27 #[v] w fun e w' => e = .returned (.func (.func 28) #[] #[.pointer (some ⟨w.heap.size, 0, none⟩)]) ∧ w' = w.alloc (.cells #[v] 22) := by
  subst hv
  go_enter Try.func27, Try.ntmps27
  go_wp2
  go_ret
  exact ⟨rfl, rfl⟩
end Go.Proofs.Ytgjnhbfdbiibdaa
