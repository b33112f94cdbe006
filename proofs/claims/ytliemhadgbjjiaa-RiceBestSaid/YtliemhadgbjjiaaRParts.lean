/-
  parts: the iterator over a block's parts.
-/
import Derived.Test.YtliemhadgbjjiaaRCost
namespace Go.Proofs.Ytliemhadgbjjiaa
open Go.RowKit Go.Shelf
attribute [local go_sem] Oper.semAt_some

/-- where a part begins -/
def frm (S s k : Nat) : Nat := k * S - s
theorem frm_zero (S s : Nat) : frm S s 0 = 0 := by simp [frm]
theorem frm_step (S s k : Nat) (hS : s < S) : frm S s k + 1 ≤ frm S s (k + 1) ∧ ((k : Int) + 1) * (S : Int) - (s : Int) = ((frm S s (k + 1) : Nat) : Int) := by
  unfold frm
  have h1 : (k + 1) * S = k * S + S := Nat.succ_mul k S
  refine ⟨by omega, ?_⟩
  have h2 : ((k : Int) + 1) * (S : Int) = (((k + 1) * S : Nat) : Int) := by rw [Int.natCast_mul]; rfl
  rw [h2]
  omega
theorem frm_le (S s k P n : Nat) (hk : k ≤ P) (hn : P * S = n + s) : frm S s k ≤ n := by
  unfold frm
  have := Nat.mul_le_mul_right S hk
  omega
/-- the three boxes of the iterator are as they were -/
def KeepB (B : Nat) (W W' : World) : Prop := ∀ k, B ≤ k → k < B + 3 → W'.heap[k]? = W.heap[k]?
theorem KeepB.t {B : Nat} {X Y Z : World} (h : KeepB B X Y) (k : KeepB B Y Z) : KeepB B X Z := fun i h1 h2 => (k i h1 h2).trans (h i h1 h2)
theorem KeepB.refl (B : Nat) (X : World) : KeepB B X X := fun _ _ _ => rfl
theorem KeepB.b {B : Nat} {w : World} (hB : B + 3 ≤ w.heap.size) (W : World) (l : Nat) (o o' : Obj) (hl : w.heap.size ≤ l) (_ : W.heap[l]? = some o) (_ : o.isCells = false) (_ : o.isWalk = false) : KeepB B W (W.putObj l o') :=
  fun k _ h2 => World.putObj_heap_other (by omega)
theorem KeepB.of {F : Nat → Prop} {B : Nat} {W W' : World} (h : Only F W W') (hB : B + 3 ≤ W.heap.size) (hF : ∀ k, B ≤ k → k < B + 3 → ¬ F k) : KeepB B W W' := fun k h1 h2 => h.block k (by omega) (hF k h1 h2)
/-- the iterator's boxes -/
structure Its (w : World) (B o s : Nat) (v : Value) : Prop where
  b0 : Box w B 3 #[iv o]
  b1 : Box w (B + 1) 3 #[iv s]
  b2 : Box w (B + 2) 22 #[v]
theorem Its.keep {w w' : World} {B o s : Nat} {v : Value} (h : Its w B o s v) (hk : KeepB B w w') : Its w' B o s v :=
  ⟨(hk B (by omega) (by omega)).trans h.b0, (hk (B + 1) (by omega) (by omega)).trans h.b1, (hk (B + 2) (by omega) (by omega)).trans h.b2⟩
/-- a part as it comes -/
def partE (ad : Addr) (c S s : Nat) (P : Nat) (k : Fin P) : Array Value := #[iv (k.val : Int), .slice (some (ad.add (frm S s k.val))) (frm S s (k.val + 1) - frm S s k.val) (c - frm S s k.val)]
abbrev itsV (B : Nat) : Array Value := #[.pointer (some ⟨B + 2, 0, none⟩), .pointer (some ⟨B + 1, 0, none⟩), .pointer (some ⟨B, 0, none⟩)]

set_option maxRecDepth 100000 in
set_option maxHeartbeats 2000000 in
theorem parts1_in (l B o s n c P S : Nat) (ad : Addr) (ho : o ≤ 15) (hP : 2 ^ o = P) (hn : P * S = n + s) (hS : s < S) (h6 : n + s ≤ 65535) (hc : n ≤ c) (J Jx : List (Fin P) → World → Prop)
    (hY : ∀ pre x W, J pre W → pre.length < P → YieldAt Fence.wide 2 Try.prog l (partE ad c S s P x) W fun e W' =>
      (e = .returned (.bool true) ∧ J (pre ++ [x]) W' ∧ KeepB B W W') ∨ (e = .returned (.bool false) ∧ Jx (pre ++ [x]) W'))
    (W : World) (hI : Its W B o s (.slice (some ad) n c)) (h0 : J [] W) :
    CallsIn Fence.wide 3 Try.prog 56 (#[.func (.yield l) #[] #[]] ++ itsV B) W fun e W' => (∃ v, e = .returned v) ∧
      ((∃ ys : List (Fin P), ys.map Fin.val = List.range P ∧ J ys W') ∨ (∃ pre : List (Fin P), (∃ k, k ≤ P ∧ pre.map Fin.val = List.range k) ∧ Jx pre W')) := by
  have hP2 : P ≤ 32768 := by rw [← hP]; exact Nat.pow_le_pow_right (by decide) ho
  have hP0 : 0 < P := by rw [← hP]; exact Nat.two_pow_pos o
  have hpw : (2 : Int) ^ o = (P : Int) := by rw [pow_cast, hP]
  have hd : ((n : Int) + (s : Int)) / (P : Int) = (S : Int) := by
    rw [show (n : Int) + (s : Int) = ((n + s : Nat) : Int) from rfl, ← hn, Int.natCast_mul]
    exact Int.mul_ediv_cancel_left _ (by omega)
  have d0 := hI.b0.cell 0
  have d1 := hI.b1.cell 0
  have d2 := hI.b2.cell 0
  simp only [List.getElem?_toArray, List.getElem?_cons_zero] at d0 d1 d2
  have HI := Lib.hid hI
  have Hn := Lib.hid hn
  have hSl : S ≤ 65535 := by
    have := Nat.le_mul_of_pos_left S hP0
    omega
  have HP := Lib.hid hP
  clear hI hn hP
  refine callsIn_of_wp Try.func56 rfl trivial ?_ rfl
  simp only [Try.ntmps56, List.size_toArray, List.length_cons, List.length_nil, Nat.reduceAdd, Nat.reduceSub, Array.replicate_succ, Array.replicate_zero, List.push_toArray, List.append_toArray, List.nil_append, List.cons_append]
  gi_wp2
  gi_loopw [6, 17] (fun s6 s17 wr => ∃ k : Nat, k ≤ P ∧ s17 = iv k ∧ s6 = iv (frm S s k : Nat) ∧ (∃ pre : List (Fin P), pre.map Fin.val = List.range k ∧ J pre wr) ∧ KeepB B W wr)
    (fun _ s17 _ => P - (intOf s17).toNat)
  case atStart => exact ⟨0, Nat.zero_le _, rfl, by rw [frm_zero]; rfl, ⟨[], rfl, h0⟩, KeepB.refl _ _⟩
  case round =>
    obtain ⟨k, hk, rfl, rfl, ⟨pre, hpre, hJs⟩, hKB⟩ := hrel
    have hI2 := HI.out.keep hKB
    have e0 := hI2.b0.cell 0
    have e1 := hI2.b1.cell 0
    have e2 := hI2.b2.cell 0
    simp only [List.getElem?_toArray, List.getElem?_cons_zero] at e0 e1 e2
    by_cases hlt : k < P
    · have hlen : pre.length = k := by have := congrArg List.length hpre; simpa using this
      obtain ⟨fn, tmps, assign, body, hy, hR⟩ := hY pre ⟨k, hlt⟩ wr hJs (by omega)
      have hfs := frm_step S s k hS
      have hf1 := hfs.1
      have hf2 := hfs.2
      have hfl := frm_le S s (k + 1) P n hlt Hn.out
      clear hfs
      have hmul : (k + 1) * S ≤ 65535 := by
        have := Nat.mul_le_mul_right S (show k + 1 ≤ P from hlt)
        have := Hn.out
        omega
      have hmi : ((k : Int) + 1) * (S : Int) = (((k + 1) * S : Nat) : Int) := by rw [Int.natCast_mul]; rfl
      have hf3 : (((k + 1) * S : Nat) : Int) - (s : Int) = ((frm S s (k + 1) : Nat) : Int) := by rw [← hmi]; exact hf2
      have hcf : ¬ c = frm S s k := by omega
      have hlt2 : (k : Int) < (P : Int) := by omega
      unfold partE at hy
      dsimp only at hy
      generalize hq : frm S s (k + 1) = to_ at *
      have Hq := Lib.hid hq
      clear hq
      generalize frm S s k = from_ at *
      generalize (k + 1) * S = M at *
      gi_wp2
      refine hR.mono ?_
      rintro e W3 (⟨rfl, hJ3, hk3⟩ | ⟨rfl, hJx3⟩)
      · gi_wp2
        go_roundw
        case rel => exact ⟨k + 1, hlt, by go_num, by rw [Hq.out], ⟨pre ++ [⟨k, hlt⟩], by rw [List.map_append, hpre, List.range_succ]; rfl, hJ3⟩, hKB.t hk3⟩
        case measure => simp [intOf]; omega
      · gi_wp2
        refine bodyPost_ret (results_none rfl _ _ _) rfl ?_
        exact ⟨⟨_, rfl⟩, .inr ⟨_, ⟨k + 1, hlt, by rw [List.map_append, hpre, List.range_succ]; rfl⟩, hJx3⟩⟩
    · obtain rfl : k = P := by omega
      gi_wp2
      go_end0
      exact ⟨⟨_, rfl⟩, .inl ⟨_, hpre, hJs⟩⟩

/-- parts' answer: each part, in order -/
theorem parts_stops {B o s n c P S : Nat} {ad : Addr} {w : World} (ho : o ≤ 15) (hP : 2 ^ o = P) (hn : P * S = n + s) (hS : s < S) (h6 : n + s ≤ 65535) (hc : n ≤ c) (hB : B + 3 ≤ w.heap.size)
    (hI : Its w B o s (.slice (some ad) n c)) :
    SeqStopsK Fence.wide 3 Try.prog 56 (itsV B) (partE ad c S s P) (KeepB B) (fun ys => ys.map Fin.val = List.range P) (fun pre => ∃ k, k ≤ P ∧ pre.map Fin.val = List.range k) P w :=
  fun l J Jx W hW _ _ hY h0 => parts1_in l B o s n c P S ad ho hP hn hS h6 hc J Jx hY W (hI.keep (fun k _ h2 => hW.block k (by omega))) h0

set_option maxHeartbeats 1000000 in
theorem parts_any {w : World} (o s : Int) (A : Option Addr) (n c : Nat) :
    Calls Try.prog 36 #[iv o, iv s, .slice A n c] w fun e w' => e = .returned (.func (.func 56) #[] (itsV w.heap.size)) ∧
      w' = ((w.alloc (.cells #[iv o] 3)).alloc (.cells #[iv s] 3)).alloc (.cells #[.slice A n c] 22) := by
  go_enter Try.func36, Try.ntmps36
  go_wp2
  go_ret
  exact ⟨rfl, rfl⟩
theorem its_new (w : World) (o s : Nat) (v : Value) : Its (((w.alloc (.cells #[iv o] 3)).alloc (.cells #[iv s] 3)).alloc (.cells #[v] 22)) w.heap.size o s v := by
  refine ⟨((Box.new w _ _).alloc _).alloc _, ?_, ?_⟩
  · have := (Box.new (w.alloc (.cells #[iv o] 3)) 3 #[iv s]).alloc (.cells #[v] 22)
    rw [World.size_alloc] at this
    exact this
  · have := Box.new ((w.alloc (.cells #[iv o] 3)).alloc (.cells #[iv s] 3)) 22 #[v]
    rw [World.size_alloc, World.size_alloc] at this
    exact this

/-- what a round of mine keeps -/
theorem keeps_of {F : Nat → Prop} {B : Nat} {W W' : World} (h : Only F W W') (hF : ∀ k, F k → B ≤ k → k < W.heap.size → ∃ t cs, Box W k t cs) : KeepsFrom B W W' :=
  ⟨h.size, fun k o hk hh ho => by
    have hlt := (Array.getElem?_eq_some_iff.1 hh).1
    by_cases hf : F k
    · obtain ⟨t, cs, hb⟩ := hF k hf hk hlt
      unfold Box at hb
      rw [hb] at hh
      injection hh with hh
      subst hh
      cases ho
    · rw [h.block k hlt hf]; exact hh⟩
theorem own_only {β : Type} {F : Nat → Prop} {B : Nat} {w0 : World} (hB : w0.heap.size ≤ B) : OwnFrom B (fun (_ : β) W => Only F w0 W) :=
  fun _ _ _ _ hs hg hr => hs.grown hg (fun k e => .inr (Nat.le_trans hB (hr k e).1))
theorem own_box {β : Type} (B : Nat) (f : β → Nat) (t : TypeId) (g : β → Array Value) : OwnFrom B (fun s W => Box W (f s) t (g s)) := fun s X Y row hs hg hr =>
  hs.grown hg (fun e => by
    obtain ⟨_, o, ho, hc⟩ := hr _ e
    rw [show X.heap[f s]? = _ from hs] at ho
    cases ho
    cases hc)
theorem own_pure {β : Type} (B : Nat) (p : β → Prop) : OwnFrom B (fun s (_ : World) => p s) := fun _ _ _ _ hs _ _ => hs
theorem own_box1 {β : Type} (B b : Nat) (t : TypeId) (cs : Array Value) : OwnFrom B (fun (_ : β) W => Box W b t cs) := own_box B (fun _ => b) t (fun _ => cs)
theorem only_put {F : Nat → Prop} {w W : World} {D : Nat} (h : Only F w W) (hD : w.heap.size ≤ D) (o : Obj) : Only F w (W.putObj D o) :=
  h.grown (grownBy_putObj' W D o) (fun k e => .inr (by cases e; exact hD))
theorem box_put {W : World} {b D : Nat} {t : TypeId} {cs : Array Value} (h : Box W b t cs) {x : Obj} (hK : W.heap[D]? = some x) (hx : x.isCells = false) (o : Obj) : Box (W.putObj D o) b t cs :=
  h.grown (grownBy_putObj' W D o) (fun e => by
    cases e
    rw [show W.heap[b]? = _ from h] at hK
    cases hK
    cases hx)
end Go.Proofs.Ytliemhadgbjjiaa
