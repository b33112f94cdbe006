/-
  parts: the iterator over a block's parts.
-/
import Derived.Test.YteklfkpeaadinaaGreatDoorPCG04
namespace Go.Proofs.YteklfkpeaadinaaGreatDoor
open Go.RowKit Go.Shelf
attribute [local go_sem] Oper.semAt_some
/-- where a part begins -/
def frm (S s k : Nat) : Nat := k * S - s
theorem frm_zero (S s : Nat) : frm S s 0 = 0 := by simp [frm]
theorem frm_step (S s k : Nat) (hS : s < S) : frm S s k + 1 ≤ frm S s (k + 1) ∧ ((k : Int) + 1) * (S : Int) - (s : Int) = ((frm S s (k + 1) : Nat) : Int) := by
  unfold frm
  have h1 : (k + 1) * S = k * S + S := Nat.succ_mul k S
  refine ⟨by omega, ?_⟩
  have h2 : ((k : Int) + 1) * (S : Int) = (((k + 1) * S : Nat) : Int) := by rw [Int.natCast_mul]; rfl
  rw [h2]
  omega
theorem frm_le (S s k P n : Nat) (hk : k ≤ P) (hn : P * S = n + s) : frm S s k ≤ n := by
  unfold frm
  have := Nat.mul_le_mul_right S hk
  omega
/-- the three boxes of the iterator are as they were -/
def KeepB (B : Nat) (W W' : World) : Prop := ∀ k, B ≤ k → k < B + 3 → W'.heap[k]? = W.heap[k]?
theorem KeepB.t {B : Nat} {X Y Z : World} (h : KeepB B X Y) (k : KeepB B Y Z) : KeepB B X Z := fun i h1 h2 => (k i h1 h2).trans (h i h1 h2)
theorem KeepB.refl (B : Nat) (X : World) : KeepB B X X := fun _ _ _ => rfl
theorem KeepB.b {B : Nat} {w : World} (hB : B + 3 ≤ w.heap.size) (W : World) (l : Nat) (o o' : Obj) (hl : w.heap.size ≤ l) (_ : W.heap[l]? = some o) (_ : o.isCells = false) (_ : o.isWalk = false) : KeepB B W (W.putObj l o') :=
  fun k _ h2 => World.putObj_heap_other (by omega)
theorem KeepB.of {F : Nat → Prop} {B : Nat} {W W' : World} (h : Only F W W') (hB : B + 3 ≤ W.heap.size) (hF : ∀ k, B ≤ k → k < B + 3 → ¬ F k) : KeepB B W W' := fun k h1 h2 => h.block k (by omega) (hF k h1 h2)
/-- the iterator's boxes -/
structure Its (w : World) (B o s : Nat) (v : Value) : Prop where
  b0 : Box w B 3 #[iv o]
  b1 : Box w (B + 1) 3 #[iv s]
  b2 : Box w (B + 2) 22 #[v]
theorem Its.keep {w w' : World} {B o s : Nat} {v : Value} (h : Its w B o s v) (hk : KeepB B w w') : Its w' B o s v :=
  ⟨(hk B (by omega) (by omega)).trans h.b0, (hk (B + 1) (by omega) (by omega)).trans h.b1, (hk (B + 2) (by omega) (by omega)).trans h.b2⟩
/-- a part as it comes -/
def partE (ad : Addr) (c S s : Nat) (P : Nat) (k : Fin P) : Array Value := #[iv (k.val : Int), .slice (some (ad.add (frm S s k.val))) (frm S s (k.val + 1) - frm S s k.val) (c - frm S s k.val)]
abbrev itsV (B : Nat) : Array Value := #[.pointer (some ⟨B + 2, 0, none⟩), .pointer (some ⟨B + 1, 0, none⟩), .pointer (some ⟨B, 0, none⟩)]
set_option maxRecDepth 100000 in
set_option maxHeartbeats 2000000 in
theorem parts1_in (l B o s n c P S : Nat) (ad : Addr) (ho : o ≤ 15) (hP : 2 ^ o = P) (hn : P * S = n + s) (hS : s < S) (h6 : n + s ≤ 65535) (hc : n ≤ c) (J Jx : List (Fin P) → World → Prop)
    (hY : ∀ pre x W, J pre W → pre.length < P → YieldAt Fence.wide 2 Tryz.prog l (partE ad c S s P x) W fun e W' =>
      (e = .returned (.bool true) ∧ J (pre ++ [x]) W' ∧ KeepB B W W') ∨ (e = .returned (.bool false) ∧ Jx (pre ++ [x]) W'))
    (W : World) (hI : Its W B o s (.slice (some ad) n c)) (h0 : J [] W) :
    CallsIn Fence.wide 3 Tryz.prog 99 (#[.func (.yield l) #[] #[]] ++ itsV B) W fun e W' => (∃ v, e = .returned v) ∧
      ((∃ ys : List (Fin P), ys.map Fin.val = List.range P ∧ J ys W') ∨ (∃ pre : List (Fin P), (∃ k, k ≤ P ∧ pre.map Fin.val = List.range k) ∧ Jx pre W')) := by
  have hP2 : P ≤ 32768 := by rw [← hP]; exact Nat.pow_le_pow_right (by decide) ho
  have hP0 : 0 < P := by rw [← hP]; exact Nat.two_pow_pos o
  have hpw : (2 : Int) ^ o = (P : Int) := by rw [pow_cast, hP]
  have hd : ((n : Int) + (s : Int)) / (P : Int) = (S : Int) := by
    rw [show (n : Int) + (s : Int) = ((n + s : Nat) : Int) from rfl, ← hn, Int.natCast_mul]
    exact Int.mul_ediv_cancel_left _ (by omega)
  have d0 := hI.b0.cell 0
  have d1 := hI.b1.cell 0
  have d2 := hI.b2.cell 0
  simp only [List.getElem?_toArray, List.getElem?_cons_zero] at d0 d1 d2
  have HI := Lib.hid hI
  have Hn := Lib.hid hn
  have hSl : S ≤ 65535 := by
    have := Nat.le_mul_of_pos_left S hP0
    omega
  have HP := Lib.hid hP
  clear hI hn hP
  refine callsIn_of_wp Tryz.func99 rfl trivial ?_ rfl
  simp only [Tryz.ntmps99, List.size_toArray, List.length_cons, List.length_nil, Nat.reduceAdd, Nat.reduceSub, Array.replicate_succ, Array.replicate_zero, List.push_toArray, List.append_toArray, List.nil_append, List.cons_append]
  gi_wp2
  gi_loopw [6, 17] (fun s6 s17 wr => ∃ k : Nat, k ≤ P ∧ s17 = iv k ∧ s6 = iv (frm S s k : Nat) ∧ (∃ pre : List (Fin P), pre.map Fin.val = List.range k ∧ J pre wr) ∧ KeepB B W wr)
    (fun _ s17 _ => P - (intOf s17).toNat)
  case atStart => exact ⟨0, Nat.zero_le _, rfl, by rw [frm_zero]; rfl, ⟨[], rfl, h0⟩, KeepB.refl _ _⟩
  case round =>
    obtain ⟨k, hk, rfl, rfl, ⟨pre, hpre, hJs⟩, hKB⟩ := hrel
    have hI2 := HI.out.keep hKB
    have e0 := hI2.b0.cell 0
    have e1 := hI2.b1.cell 0
    have e2 := hI2.b2.cell 0
    simp only [List.getElem?_toArray, List.getElem?_cons_zero] at e0 e1 e2
    by_cases hlt : k < P
    · have hlen : pre.length = k := by have := congrArg List.length hpre; simpa using this
      obtain ⟨fn, tmps, assign, body, hy, hR⟩ := hY pre ⟨k, hlt⟩ wr hJs (by omega)
      have hfs := frm_step S s k hS
      have hf1 := hfs.1
      have hf2 := hfs.2
      have hfl := frm_le S s (k + 1) P n hlt Hn.out
      clear hfs
      have hmul : (k + 1) * S ≤ 65535 := by
        have := Nat.mul_le_mul_right S (show k + 1 ≤ P from hlt)
        have := Hn.out
        omega
      have hmi : ((k : Int) + 1) * (S : Int) = (((k + 1) * S : Nat) : Int) := by rw [Int.natCast_mul]; rfl
      have hf3 : (((k + 1) * S : Nat) : Int) - (s : Int) = ((frm S s (k + 1) : Nat) : Int) := by rw [← hmi]; exact hf2
      have hcf : ¬ c = frm S s k := by omega
      have hlt2 : (k : Int) < (P : Int) := by omega
      unfold partE at hy
      dsimp only at hy
      generalize hq : frm S s (k + 1) = to_ at *
      have Hq := Lib.hid hq
      clear hq
      generalize frm S s k = from_ at *
      generalize (k + 1) * S = M at *
      gi_wp2
      refine hR.mono ?_
      rintro e W3 (⟨rfl, hJ3, hk3⟩ | ⟨rfl, hJx3⟩)
      · gi_wp2
        go_roundw
        case rel => exact ⟨k + 1, hlt, by go_num, by rw [Hq.out], ⟨pre ++ [⟨k, hlt⟩], by rw [List.map_append, hpre, List.range_succ]; rfl, hJ3⟩, hKB.t hk3⟩
        case measure => simp [intOf]; omega
      · gi_wp2
        refine bodyPost_ret (results_none rfl _ _ _) rfl ?_
        exact ⟨⟨_, rfl⟩, .inr ⟨_, ⟨k + 1, hlt, by rw [List.map_append, hpre, List.range_succ]; rfl⟩, hJx3⟩⟩
    · obtain rfl : k = P := by omega
      gi_wp2
      go_end0
      exact ⟨⟨_, rfl⟩, .inl ⟨_, hpre, hJs⟩⟩
/-- parts' answer: each part, in order -/
theorem parts_stops {B o s n c P S : Nat} {ad : Addr} {w : World} (ho : o ≤ 15) (hP : 2 ^ o = P) (hn : P * S = n + s) (hS : s < S) (h6 : n + s ≤ 65535) (hc : n ≤ c) (hB : B + 3 ≤ w.heap.size)
    (hI : Its w B o s (.slice (some ad) n c)) :
    SeqStopsK Fence.wide 3 Tryz.prog 99 (itsV B) (partE ad c S s P) (KeepB B) (fun ys => ys.map Fin.val = List.range P) (fun pre => ∃ k, k ≤ P ∧ pre.map Fin.val = List.range k) P w :=
  fun l J Jx W hW _ _ hY h0 => parts1_in l B o s n c P S ad ho hP hn hS h6 hc J Jx hY W (hI.keep (fun k _ h2 => hW.block k (by omega))) h0
set_option maxHeartbeats 1000000 in
theorem parts_any {w : World} (o s : Int) (A : Option Addr) (n c : Nat) :
    Calls Tryz.prog 73 #[iv o, iv s, .slice A n c] w fun e w' => e = .returned (.func (.func 99) #[] (itsV w.heap.size)) ∧
      w' = ((w.alloc (.cells #[iv o] 3)).alloc (.cells #[iv s] 3)).alloc (.cells #[.slice A n c] 22) := by
  go_enter Tryz.func73, Tryz.ntmps73
  go_wp2
  go_ret
  exact ⟨rfl, rfl⟩
theorem its_new (w : World) (o s : Nat) (v : Value) : Its (((w.alloc (.cells #[iv o] 3)).alloc (.cells #[iv s] 3)).alloc (.cells #[v] 22)) w.heap.size o s v := by
  refine ⟨((Box.new w _ _).alloc _).alloc _, ?_, ?_⟩
  · have := (Box.new (w.alloc (.cells #[iv o] 3)) 3 #[iv s]).alloc (.cells #[v] 22)
    rw [World.size_alloc] at this
    exact this
  · have := Box.new ((w.alloc (.cells #[iv o] 3)).alloc (.cells #[iv s] 3)) 22 #[v]
    rw [World.size_alloc, World.size_alloc] at this
    exact this
/-- what a round of mine keeps -/
theorem keeps_of {F : Nat → Prop} {B : Nat} {W W' : World} (h : Only F W W') (hF : ∀ k, F k → B ≤ k → k < W.heap.size → ∃ t cs, Box W k t cs) : KeepsFrom B W W' :=
  ⟨h.size, fun k o hk hh ho => by
    have hlt := (Array.getElem?_eq_some_iff.1 hh).1
    by_cases hf : F k
    · obtain ⟨t, cs, hb⟩ := hF k hf hk hlt
      unfold Box at hb
      rw [hb] at hh
      injection hh with hh
      subst hh
      cases ho
    · rw [h.block k hlt hf]; exact hh⟩
theorem own_only {β : Type} {F : Nat → Prop} {B : Nat} {w0 : World} (hB : w0.heap.size ≤ B) : OwnFrom B (fun (_ : β) W => Only F w0 W) :=
  fun _ _ _ _ hs hg hr => hs.grown hg (fun k e => .inr (Nat.le_trans hB (hr k e).1))
theorem own_box {β : Type} (B : Nat) (f : β → Nat) (t : TypeId) (g : β → Array Value) : OwnFrom B (fun s W => Box W (f s) t (g s)) := fun s X Y row hs hg hr =>
  hs.grown hg (fun e => by
    obtain ⟨_, o, ho, hc⟩ := hr _ e
    rw [show X.heap[f s]? = _ from hs] at ho
    cases ho
    cases hc)
theorem own_box1 {β : Type} (B b : Nat) (t : TypeId) (cs : Array Value) : OwnFrom B (fun (_ : β) W => Box W b t cs) := own_box B (fun _ => b) t (fun _ => cs)
theorem only_put {F : Nat → Prop} {w W : World} {D : Nat} (h : Only F w W) (hD : w.heap.size ≤ D) (o : Obj) : Only F w (W.putObj D o) :=
  h.grown (grownBy_putObj' W D o) (fun k e => .inr (by cases e; exact hD))
theorem box_put {W : World} {b D : Nat} {t : TypeId} {cs : Array Value} (h : Box W b t cs) {x : Obj} (hK : W.heap[D]? = some x) (hx : x.isCells = false) (o : Obj) : Box (W.putObj D o) b t cs :=
  h.grown (grownBy_putObj' W D o) (fun e => by
    cases e
    rw [show W.heap[b]? = _ from h] at hK
    cases hK
    cases hx)
end Go.Proofs.YteklfkpeaadinaaGreatDoor
namespace Go.Proofs.YteklfkpeaadinaaGreatDoor
open Go.RowKit Go.Shelf
attribute [local go_sem] Oper.semAt_some
/-- a part's numbers -/
def pt (S s : Nat) {α : Type} (ns : List α) (k : Nat) : List α := (ns.drop (frm S s k)).take (frm S s (k + 1) - frm S s k)
theorem pt_len {α : Type} (S s P : Nat) (ns : List α) (k : Nat) (_ : s < S) (hk : k < P) (hn : P * S = ns.length + s) : (pt S s ns k).length = frm S s (k + 1) - frm S s k := by
  have h1 := frm_le S s (k + 1) P ns.length hk hn
  unfold pt
  rw [List.length_take, List.length_drop]
  omega
/-- how many bits a part has, and whether it may be -/
def szP (m : Nat) (p wd : Int) (ns : List Nat) : Nat := if p = -1 then szR m wd.toNat ns else szK m p.toNat ns
def mayP (p wd : Int) (ns : List Nat) : Bool := if p = -1 then decide (mxN ns < 2 ^ wd.toNat) else decide (mxN ns / 2 ^ p.toNat ≤ 65536)
theorem tell_any {w : World} {B m : Nat} {A : Option Addr} {c n : Nat} {ns : List Nat} (h : Told w B m (.slice A n c) ns) (hm : m ≤ 1) (p wd : Int) (hp : isP m p wd) (h1 : 1 ≤ ns.length) (h6 : ns.length ≤ 65535) (hlt : ∀ n ∈ ns, n < 4294967296) :
    Calls Tryz.prog 124 #[iv p, iv wd, .pointer (some ⟨B, 0, none⟩), .pointer (some ⟨B + 1, 0, none⟩), .pointer (some ⟨B + 2, 0, none⟩)] w fun e w' => e = .returned (.tuple #[iv (szP m p wd ns), .bool (mayP p wd ns)]) ∧ ∃ k, w' = w.drewN k := by
  have hl := h.src.len
  rw [ivs_len] at hl
  subst hl
  rcases hp with ⟨rfl, h2, h3⟩ | ⟨h2, h3, rfl⟩
  · obtain ⟨wd, rfl⟩ := Int.eq_ofNat_of_zero_le h2
    unfold szP mayP
    rw [if_pos rfl, if_pos rfl, Int.toNat_natCast]
    exact tell_raw h hm wd (by omega) h1 h6 hlt
  · obtain ⟨p, rfl⟩ := Int.eq_ofNat_of_zero_le h2
    unfold szP mayP
    rw [if_neg (by omega), if_neg (by omega), Int.toNat_natCast]
    exact tell_coded h hm p 0 (by omega) h1 h6 hlt
/-- may l be written by a plan's parts -/
def mayAll (S s P : Nat) (ps bs : List Int) (ns : List Nat) : Prop := ∀ k, k < P → mayP (ps.getD k 0) (bs.getD k 0) (pt S s ns k) = true
/-- how many bits some parts have -/
def szL (S s m : Nat) (ps bs : List Int) (ns : List Nat) (ks : List Nat) : Nat := (ks.map fun k => szP m (ps.getD k 0) (bs.getD k 0) (pt S s ns k)).sum
/-- cells abide -/
theorem box_abide {B b : Nat} {t : TypeId} {cs : Array Value} {X Y : World} {row : Option Nat} (h : Box X b t cs) (hg : X.grownBy Y row) (hr : ∀ r, row = some r → B ≤ r ∧ ∃ o : Obj, X.heap[r]? = some o ∧ o.isCells = false) : Box Y b t cs := own_box1 (β := Unit) B b t cs () X Y row h hg hr
/-- Size between two rounds -/
structure SzI (w : World) (g z m : Nat) (plan : Array Value) (S s : Nat) (ps bs : List Int) (ns : List Nat) (ks : List Nat) (W : World) : Prop where
  bz : Box W z 3 #[iv ((6 + szL S s m ps bs ns ks : Nat) : Int)]
  bp : Box W w.heap.size 26 plan
  b6 : Box W (w.heap.size + 1) 3 #[Value.int .i64 0]
  b7 : Box W (w.heap.size + 1 + 1) 35 #[Value.int .i64 0]
  bg : Box W g 3 ((ivs ns).map iv).toArray
  my : ∀ k ∈ ks, mayP (ps.getD k 0) (bs.getD k 0) (pt S s ns k) = true
  only : Only Nix w W
  big : z + 4 ≤ W.heap.size
theorem SzI.own {w : World} {g z m : Nat} {plan : Array Value} {S s : Nat} {ps bs : List Int} {ns : List Nat} {P B : Nat} (hB : w.heap.size ≤ B) : OwnFrom B (fun (pre : List (Fin P)) W => SzI w g z m plan S s ps bs ns (pre.map Fin.val) W) :=
  fun _ _ _ _ hs hg hr => ⟨box_abide hs.bz hg hr, box_abide hs.bp hg hr, box_abide hs.b6 hg hr, box_abide hs.b7 hg hr, box_abide hs.bg hg hr, hs.my, own_only (β := Unit) hB () _ _ _ hs.only hg hr, Nat.le_trans hs.big hg.size⟩
/-- Size left within a round -/
structure SzX (w : World) (bad : Prop) (cd : Code) (W : World) : Prop where
  ret : cd = .ret
  bad : bad
  b6 : Box W (w.heap.size + 1) 3 #[Value.int .i64 0]
  b7 : Box W (w.heap.size + 1 + 1) 35 #[Value.int .i64 10]
  only : Only Nix w W
theorem SzX.own {w : World} {bad : Prop} {P B : Nat} (hB : w.heap.size ≤ B) (cd : Code) : OwnFrom B (fun (_ : List (Fin P)) W => SzX w bad cd W) :=
  fun _ _ _ _ hs hg hr => ⟨hs.ret, hs.bad, box_abide hs.b6 hg hr, box_abide hs.b7 hg hr, own_only (β := Unit) hB () _ _ _ hs.only hg hr⟩
theorem fds_ivs (l : List Int) : fds l = ivs (l.map fd) := by simp [fds, ivs]
theorem szL_snoc (S s m : Nat) (ps bs : List Int) (ns ks : List Nat) (k : Nat) : szL S s m ps bs ns (ks ++ [k]) = szL S s m ps bs ns ks + szP m (ps.getD k 0) (bs.getD k 0) (pt S s ns k) := by simp [szL]
theorem szP_bound (m : Nat) (p wd : Int) (ns : List Nat) (hm : m ≤ 1) (hp : isP m p wd) (h1 : 1 ≤ ns.length) (hlt : ∀ n ∈ ns, n < 4294967296) : szP m p wd ns ≤ 4294967400 * ns.length := by
  have hb := fun q => hiS_bound q ns hlt
  unfold szP
  rcases hp with ⟨rfl, h2, h3⟩ | ⟨h2, h3, rfl⟩
  · rw [if_pos rfl]
    unfold szR
    have : wd.toNat * ns.length ≤ 31 * ns.length := Nat.mul_le_mul_right _ (by omega)
    omega
  · rw [if_neg (by omega)]
    unfold szK
    have h4 := hb p.toNat
    have : (1 + p.toNat) * ns.length ≤ 31 * ns.length := Nat.mul_le_mul_right _ (by omega)
    omega
theorem frm_width (S s k : Nat) : frm S s (k + 1) - frm S s k ≤ S := by
  unfold frm
  have : (k + 1) * S = k * S + S := Nat.succ_mul k S
  omega
/-- cost has been asked, or not yet -/
structure TeW (W : World) (m : Nat) (v : Value) (ns : List Nat) (L : Nat → Bool) (u : World) : Prop where
  only : Only Nix W u
  begun : L 3 = false → u.heap.size = W.heap.size
  told : L 3 = true → Told u W.heap.size m v ns
section
variable {W u u' : World} {L : Nat → Bool} {i m : Nat} {v : Value} {ns : List Nat}
theorem TeW.same (h : TeW W m v ns L u) (hi : 3 ≠ i) : TeW W m v ns (andOne L i) u := by
  refine ⟨h.only, fun e => h.begun ?_, fun e => h.told ?_⟩
  · unfold andOne at e; rwa [if_neg hi] at e
  · unfold andOne at e; rwa [if_neg hi] at e
theorem TeW.drewN (h : TeW W m v ns L u) (n : Nat) (hi : 3 ≠ i) : TeW W m v ns (andOne L i) (u.drewN n) := by
  have := h.same hi
  exact ⟨this.only.drewN n, this.begun, fun e => (this.told e).nix ((Only.refl _ _).drewN n)⟩
theorem TeW.asked (h : TeW W m v ns L u) (hL : L 3 = false) (hb : Told u' u.heap.size m v ns) (ho : Only Nix u u') : TeW W m v ns (andOne L 3) u' := by
  refine ⟨h.only.trans ho, fun e => ?_, fun _ => ?_⟩
  · unfold andOne at e; rw [if_pos rfl] at e; cases e
  · rw [← h.begun hL]; exact hb
end
theorem pt_sub {w : World} {g n : Nat} {xs : List Nat} (S s P : Nat) (h : ISrc w (.slice (some ⟨g, 0, none⟩) n n) (ivs xs)) (hS : s < S) (hn : P * S = n + s) (k : Nat) (hk : k < P) :
    ISrc w (.slice (some ⟨g, frm S s k, none⟩) (frm S s (k + 1) - frm S s k) (n - frm S s k)) (ivs (pt S s xs k)) := by
  have hl := h.len
  have h1 := (frm_step S s k hS).1
  have h2 := frm_le S s (k + 1) P n hk hn
  have e : ivs (pt S s xs k) = ((ivs xs).drop (frm S s k)).take (frm S s (k + 1) - frm S s k) := by
    unfold ivs pt
    rw [List.map_take, List.map_drop]
  rw [e]
  have := h.sub (frm S s k) (frm S s (k + 1) - frm S s k) (by omega) (n - frm S s k) (by omega)
  rw [Addr.add_lit, Nat.zero_add] at this
  exact this
set_option maxRecDepth 100000 in
set_option maxHeartbeats 4000000 in
theorem size_walk {w : World} (m o s P S c n : Nat) (hm : m ≤ 1) (ho : o ≤ 15) (hP : 2 ^ o = P) (l : List Int) (hln : l.length = n) (hn : P * S = n + s) (hS : s < S) (h6 : n + s ≤ 65535) (A Ap Ab : Option Addr) (np nb cp cb : Nat) (ps bs : List Int)
    (hnp : ps.length = P) (hnb : bs.length = P) (hal : allP m ps bs)
    (hl : ISrc w (.slice A n c) l) (hps : ISrc w (.slice Ap np cp) ps) (hbs : ISrc w (.slice Ab nb cb) bs)
    (HCk : ∀ u, Only Nix w u → Calls Tryz.prog 96 #[planV m o (.slice Ap np cp) (.slice Ab nb cb), iv ((n : Int) + (s : Int)), iv s] u fun e w' => e = .returned (iv 0) ∧ Only Nix u w') :
    Calls Tryz.prog 72 #[planV m o (.slice Ap np cp) (.slice Ab nb cb), iv s, .slice A n c] w fun e w' =>
      ((((∀ x ∈ l, isR x) ∧ mayAll S s P ps bs (l.map fd)) ∧ e = two ((6 + szL S s m ps bs (l.map fd) (List.range P) : Nat) : Int) 0) ∨
       (¬ ((∀ x ∈ l, isR x) ∧ mayAll S s P ps bs (l.map fd)) ∧ e = two 0 10)) ∧ Only Nix w w' := by
  have hsm := hl.small
  have a0 := (((Only.refl Nix w).alloc (.cells #[iv m, iv o, .slice Ap np cp, .slice Ab nb cb] 26)).alloc (.cells #[Value.int .i64 0] 3)).alloc (.cells #[Value.int .i64 0] 35)
  have B0 := Lib.hid (((Box.new w 26 #[iv m, iv o, .slice Ap np cp, .slice Ab nb cb]).alloc (.cells #[Value.int .i64 0] 3)).alloc (.cells #[Value.int .i64 0] 35))
  have B1 := Lib.hid ((Box.new (w.alloc (.cells #[iv m, iv o, .slice Ap np cp, .slice Ab nb cb] 26)) 3 #[Value.int .i64 0]).alloc (.cells #[Value.int .i64 0] 35))
  have B2 := Lib.hid (Box.new ((w.alloc (.cells #[iv m, iv o, .slice Ap np cp, .slice Ab nb cb] 26)).alloc (.cells #[Value.int .i64 0] 3)) 35 #[Value.int .i64 0])
  rw [World.size_alloc] at B1
  rw [World.size_alloc, World.size_alloc] at B2
  have HC1 := Lib.hid (HCk _ a0)
  have HL := Lib.hid hl
  have HPS := Lib.hid hps
  have HBS := Lib.hid hbs
  have HAL := Lib.hid hal
  have Hln := Lib.hid hln
  clear hl hps hbs HCk hal hln
  have hsz0 : (((w.alloc (.cells #[iv m, iv o, .slice Ap np cp, .slice Ab nb cb] 26)).alloc (.cells #[Value.int .i64 0] 3)).alloc (.cells #[Value.int .i64 0] 35)).heap.size = w.heap.size + 3 := by simp
  refine (callsIn_wide (n := 4)).1 ?_
  refine callsIn_of_wp_marks Tryz.func72 rfl trivial ?_ rfl
  simp only [Tryz.ntmps72, List.size_toArray, List.length_cons, List.length_nil, Nat.reduceAdd, Nat.reduceSub, Array.replicate_succ, Array.replicate_zero, List.push_toArray, List.append_toArray, List.nil_append, List.cons_append]
  gi_wp2_with fail
  refine ⟨trivial, (callsIn_wide.2 HC1.out).mono ?_⟩
  rintro e w1 ⟨rfl, o1⟩
  have B01 := Lib.hid (B0.out.only o1 (fun e => e))
  have B11 := Lib.hid (B1.out.only o1 (fun e => e))
  have B21 := Lib.hid (B2.out.only o1 (fun e => e))
  have oA := a0.trans o1
  have hsz1 := o1.size
  rw [hsz0] at hsz1
  clear o1 HC1 B0 B1 B2 hsz0 a0
  have HF := Lib.hid (foldAll_any A c l (by rw [Hln.out]; exact HL.out.nix oA) (by rw [Hln.out]; omega))
  rw [Hln.out] at HF
  have f6 := B11.out.frozen 0
  have f7 := B21.out.frozen 0
  have c6 := B11.out.cell 0
  have c7 := B21.out.cell 0
  simp only [List.getElem?_toArray, List.getElem?_cons_zero] at c6 c7
  gi_wp2_with fail
  refine ⟨trivial, (callsIn_wide.2 HF.out).mono ?_⟩
  rintro e w2 ⟨⟨hR, rfl, hBg⟩ | ⟨hR, rfl⟩, o2⟩
  · have B02 := Lib.hid (B01.out.only o2 (fun e => e))
    have B12 := Lib.hid (B11.out.only o2 (fun e => e))
    have B22 := Lib.hid (B21.out.only o2 (fun e => e))
    have hsz2 := o2.size
    have hg2 := hBg.lt
    have d1 := (B02.out.alloc (.cells #[Value.int .i64 6] 3)).cell 1
    simp only [List.getElem?_toArray, List.getElem?_cons_zero, List.getElem?_cons_succ] at d1
    have HPa := Lib.hid (parts_any (w := w2.alloc (.cells #[Value.int .i64 6] 3)) (o : Int) (s : Int) (some ⟨w1.heap.size, 0, none⟩) n n)
    gi_wp2_with fail
    refine ⟨trivial, (callsIn_wide.2 HPa.out).mono ?_⟩
    rintro e w4 ⟨rfl, rfl⟩
    clear HF HPa
    gi_wp2_with fail
    have hg1 : w1.heap.size < w2.heap.size := hg2
    rw [fds_ivs] at hBg
    have hRl : Hid (∀ y ∈ l.map fd, y < 4294967296) := Lib.hid (fun y hy => by
      obtain ⟨x, hx, rfl⟩ := List.mem_map.1 hy
      exact fd_lt (hR x hx))
    have o4 : Only Nix w2 ((((w2.alloc (.cells #[Value.int .i64 6] 3)).alloc (.cells #[iv o] 3)).alloc (.cells #[iv s] 3)).alloc (.cells #[.slice (some ⟨w1.heap.size, 0, none⟩) n n] 22)) := ((((Only.refl Nix w2).alloc _).alloc _).alloc _).alloc _
    have hsz4 : ((((w2.alloc (.cells #[Value.int .i64 6] 3)).alloc (.cells #[iv o] 3)).alloc (.cells #[iv s] 3)).alloc (.cells #[.slice (some ⟨w1.heap.size, 0, none⟩) n n] 22)).heap.size = w2.heap.size + 4 := by simp
    have hIts := its_new (w2.alloc (.cells #[Value.int .i64 6] 3)) o s (.slice (some ⟨w1.heap.size, 0, none⟩) n n)
    rw [World.size_alloc] at hIts
    have bz := (((Box.new w2 3 #[Value.int .i64 6]).alloc (.cells #[iv o] 3)).alloc (.cells #[iv s] 3)).alloc (.cells #[.slice (some ⟨w1.heap.size, 0, none⟩) n n] 22)
    generalize ((((w2.alloc (.cells #[Value.int .i64 6] 3)).alloc (.cells #[iv o] 3)).alloc (.cells #[iv s] 3)).alloc (.cells #[.slice (some ⟨w1.heap.size, 0, none⟩) n n] 22)) = w4 at *
    have oD := (oA.trans o2).trans o4
    have HIt := Lib.hid hIts
    have Hbz := Lib.hid bz
    have HBg := Lib.hid (hBg.only o4 (fun e => e))
    have B04 := Lib.hid (B02.out.only o4 (fun e => e))
    have B14 := Lib.hid (B12.out.only o4 (fun e => e))
    have B24 := Lib.hid (B22.out.only o4 (fun e => e))
    clear hIts bz hBg o4 o2 B01 B11 B21 B02 B12 B22 c6 c7 f6 f7 d1
    refine wpIn_rangeFunc_ownG rfl (by decide) (gf := 99) (lb := itsV (w2.heap.size + 1)) rfl trivial (enters_of Tryz.func99 (by kernel_rfl) rfl)
      (parts_stops ho hP hn hS h6 (Nat.le_refl n) (by omega) HIt.out) KeepB.t (KeepB.b (by omega)) (Below.refl _ _) (fun _ => rfl)
      (fun pre W => SzI w w1.heap.size w2.heap.size m #[iv m, iv o, .slice Ap np cp, .slice Ab nb cb] S s ps bs (l.map fd) (pre.map Fin.val) W)
      (fun cd _ W => SzX w (¬ mayAll S s P ps bs (l.map fd)) cd W)
      (SzI.own (by omega))
      (fun cd => SzX.own (by omega) cd)
      ⟨Hbz.out, B04.out, B14.out, B24.out, HBg.out, by simp, oD, by omega⟩
      (fun x => { tmps := #[planV m o (.slice Ap np cp) (.slice Ab nb cb), iv s, .slice A n c, .pointer (some ⟨w.heap.size, 0, none⟩), undef, undef, .pointer (some ⟨w.heap.size + 1, 0, none⟩), .pointer (some ⟨w.heap.size + 1 + 1, 0, none⟩), iv 0, .slice (some ⟨w1.heap.size, 0, none⟩) n n, iv 0, .pointer (some ⟨w2.heap.size, 0, none⟩), iv (x.val : Int), (.slice (some ⟨w1.heap.size, frm S s x.val, none⟩) (frm S s (x.val + 1) - frm S s x.val) (n - frm S s x.val)), undef, undef, .agg #[iv m, iv o, .slice Ap np cp, .slice Ab nb cb], .slice A n c, .int .i64 (n : Int), iv s, .int .i64 ((n : Int) + (s : Int)), iv s, iv 0, iv 0, .bool false, undef, .tuple #[.slice (some ⟨w1.heap.size, 0, none⟩) n n, iv 0], .slice A n c, .tuple #[.slice (some ⟨w1.heap.size, 0, none⟩) n n, iv 0], .slice (some ⟨w1.heap.size, 0, none⟩) n n, iv 0, iv 0, .bool false, undef, .pointer (some ⟨w.heap.size, 1, none⟩), iv o, iv s, .slice (some ⟨w1.heap.size, 0, none⟩) n n, .func (.func 99) #[] (itsV (w2.heap.size + 1)), iv (x.val : Int), (.slice (some ⟨w1.heap.size, frm S s x.val, none⟩) (frm S s (x.val + 1) - frm S s x.val) (n - frm S s x.val)), undef, undef, undef, undef, undef, undef, undef, undef, undef, undef, undef, undef, undef, undef, undef, undef, undef, undef, undef, undef, undef, undef, undef, undef], defers := [] }) ?assign ?body ?done ?stop
    case assign =>
      intro l x W K hK
      unfold partE
      gi_wp2
      exact hK
    case body =>
      rintro lp pre x W ⟨bz, bp, b6, b7, bg, hmy, hO, hbig⟩ hpl
      have hkP := x.isLt
      have hsrc := ISrc.of_box bg (by rw [ivs_len, List.length_map, Hln.out]) (Nat.le_refl n) (by rw [ivs_len, List.length_map, Hln.out]; omega) (fun y hy => by
        unfold ivs at hy
        obtain ⟨z, hz, rfl⟩ := List.mem_map.1 hy
        have := hRl.out z hz
        omega)
      have hpt := pt_sub S s P hsrc hS hn x.val hkP
      have hptl := pt_len S s P (l.map fd) x.val hS hkP (by rw [List.length_map, Hln.out]; exact hn)
      have hst := (frm_step S s x.val hS).1
      have hfl := frm_le S s (x.val + 1) P n hkP hn
      obtain ⟨adp, rfl, qp⟩ := (HPS.out.nix hO).at_ (k := x.val) (by rw [hnp]; exact hkP)
      obtain ⟨adb, rfl, qb⟩ := (HBS.out.nix hO).at_ (k := x.val) (by rw [hnb]; exact hkP)
      have hip := HAL.out x.val (by rw [hnp]; exact hkP) (by rw [hnb]; exact hkP)
      have ep : ps.getD x.val 0 = ps[x.val]'(by rw [hnp]; exact hkP) := by rw [List.getD_eq_getElem?_getD, List.getElem?_eq_getElem (by rw [hnp]; exact hkP)]; rfl
      have eb : bs.getD x.val 0 = bs[x.val]'(by rw [hnb]; exact hkP) := by rw [List.getD_eq_getElem?_getD, List.getElem?_eq_getElem (by rw [hnb]; exact hkP)]; rfl
      rw [← ep] at qp hip
      rw [← eb] at qb hip
      have Hsn := Lib.hid (szL_snoc S s m ps bs (l.map fd) (pre.map Fin.val) x.val)
      have hnpl : np = P := by rw [HPS.out.len, hnp]
      have hnbl : nb = P := by rw [HBS.out.len, hnb]
      have hkn : x.val < np := by omega
      have hkb : x.val < nb := by omega
      have hone : ∀ k, k < P → szP m (ps.getD k 0) (bs.getD k 0) (pt S s (l.map fd) k) ≤ 4294967400 * S := fun k hkk => by
        have hw := frm_width S s k
        have hl1 := (frm_step S s k hS).1
        have hl2 := pt_len S s P (l.map fd) k hS hkk (by rw [List.length_map, Hln.out]; exact hn)
        have h2 := szP_bound m (ps.getD k 0) (bs.getD k 0) (pt S s (l.map fd) k) hm (by
          have := HAL.out k (by rw [hnp]; exact hkk) (by rw [hnb]; exact hkk)
          rw [List.getD_eq_getElem?_getD, List.getElem?_eq_getElem (by rw [hnp]; exact hkk), List.getD_eq_getElem?_getD, List.getElem?_eq_getElem (by rw [hnb]; exact hkk)]
          exact this) (by rw [hl2]; omega) (fun y hy => hRl.out y (List.mem_of_mem_drop (List.mem_of_mem_take hy)))
        rw [hl2] at h2
        have := Nat.mul_le_mul_left 4294967400 hw
        omega
      have hszb : szL S s m ps bs (l.map fd) (pre.map Fin.val) + szP m (ps.getD x.val 0) (bs.getD x.val 0) (pt S s (l.map fd) x.val) ≤ 4294967400 * 65535 := by
        have : ∀ ks : List Nat, (∀ k ∈ ks, k < P) → szL S s m ps bs (l.map fd) ks ≤ 4294967400 * (ks.length * S) := by
          intro ks
          induction ks with
          | nil => intro _; simp [szL]
          | cons k ks ih =>
            intro hk
            have h1 := ih (fun j hj => hk j (List.mem_cons_of_mem _ hj))
            have h2 := hone k (hk k (List.mem_cons_self ..))
            unfold szL at h1 ⊢
            rw [List.map_cons, List.sum_cons, List.length_cons]
            have e : (ks.length + 1) * S = ks.length * S + S := Nat.succ_mul _ _
            omega
        have h3 := this (pre.map Fin.val) (fun k hk => by obtain ⟨f, _, rfl⟩ := List.mem_map.1 hk; exact f.isLt)
        rw [List.length_map] at h3
        have h4 := hone x.val hkP
        have h5 := Nat.mul_le_mul_right S (show pre.length + 1 ≤ P from hpl)
        rw [Nat.succ_mul] at h5
        omega
      have HTE : Hid (∀ u, Told u W.heap.size m (Value.slice (some ⟨w1.heap.size, frm S s x.val, none⟩) (frm S s (x.val + 1) - frm S s x.val) (n - frm S s x.val)) (pt S s (l.map fd) x.val) → Calls Tryz.prog 124 #[iv (ps.getD x.val 0), iv (bs.getD x.val 0), .pointer (some ⟨W.heap.size, 0, none⟩), .pointer (some ⟨W.heap.size + 1, 0, none⟩), .pointer (some ⟨W.heap.size + 2, 0, none⟩)] u fun e w' => e = .returned (.tuple #[iv (szP m (ps.getD x.val 0) (bs.getD x.val 0) (pt S s (l.map fd) x.val) : Nat), .bool (mayP (ps.getD x.val 0) (bs.getD x.val 0) (pt S s (l.map fd) x.val))]) ∧ ∃ k, w' = u.drewN k) :=
        Lib.hid (fun u hu => tell_any hu hm _ _ hip (by rw [hptl]; omega) (by rw [hptl]; omega) (fun y hy => hRl.out y (List.mem_of_mem_drop (List.mem_of_mem_take hy))))
      have HCO : Hid (∀ u, Only Nix W u → Calls Tryz.prog 98 #[iv m, (Value.slice (some ⟨w1.heap.size, frm S s x.val, none⟩) (frm S s (x.val + 1) - frm S s x.val) (n - frm S s x.val))] u fun e w' => e = .returned (tellV u.heap.size) ∧ Told w' u.heap.size m (Value.slice (some ⟨w1.heap.size, frm S s x.val, none⟩) (frm S s (x.val + 1) - frm S s x.val) (n - frm S s x.val)) (pt S s (l.map fd) x.val) ∧ Only Nix u w' ∧ w'.heap.size = u.heap.size + 3) :=
        Lib.hid (fun u hu => by
          have := cost_any (w := u) m (some ⟨w1.heap.size, frm S s x.val, none⟩) (n - frm S s x.val) (pt S s (l.map fd) x.val) (by rw [hptl]; exact hpt.nix hu) (by rw [hptl]; omega)
          rw [hptl] at this
          exact this)
      have HMk : Hid (mayAll S s P ps bs (l.map fd) → mayP (ps.getD x.val 0) (bs.getD x.val 0) (pt S s (l.map fd) x.val) = true) := Lib.hid (fun h => h _ hkP)
      have Hmy := Lib.hid hmy
      have q0 := bp.cell 0
      have q2 := bp.cell 2
      have q3 := bp.cell 3
      have qz := bz.cell 0
      simp only [List.getElem?_toArray, List.getElem?_cons_zero, List.getElem?_cons_succ] at q0 q2 q3 qz
      clear hmy hsrc hpt hip ep eb hone
      have Hpl := Lib.hid hpl
      clear hpl
      obtain ⟨Wz, HWz⟩ : ∃ Wz, Hid (W.heap.size = Wz) := ⟨_, Lib.hid rfl⟩
      have HWz2 : Hid (Wz = W.heap.size) := Lib.hid HWz.out.symm
      have hlenk : (pre ++ [x]).map Fin.val = pre.map Fin.val ++ [x.val] := by rw [List.map_append]; rfl
      have Hlk := Lib.hid hlenk
      clear hlenk hfl hst hptl
      rw [HWz.out] at HTE
      have Hpm : Hid (∀ my, mayP (ps.getD x.val 0) (bs.getD x.val 0) (pt S s (l.map fd) x.val) = my → (my = true → ∀ k ∈ (pre ++ [x]).map Fin.val, mayP (ps.getD k 0) (bs.getD k 0) (pt S s (l.map fd) k) = true) ∧ (my = false → ¬ mayAll S s P ps bs (l.map fd))) := Lib.hid (fun my e => by
        refine ⟨fun e2 k hk => ?_, fun e2 h => ?_⟩
        · rw [Hlk.out] at hk
          rcases List.mem_append.1 hk with hk | hk
          · exact Hmy.out k hk
          · simp at hk; subst hk; rw [e, e2]
        · have := HMk.out h
          rw [e, e2] at this
          cases this)
      obtain ⟨sz, hsz⟩ : ∃ sz, szP m (ps.getD x.val 0) (bs.getD x.val 0) (pt S s (l.map fd) x.val) = sz := ⟨_, rfl⟩
      obtain ⟨my, hmy⟩ : ∃ my, mayP (ps.getD x.val 0) (bs.getD x.val 0) (pt S s (l.map fd) x.val) = my := ⟨_, rfl⟩
      have Hpm2 := Lib.hid (Hpm.out my hmy)
      rw [hsz] at Hsn hszb HTE
      rw [hmy] at HTE
      clear Hpm HMk Hmy hsz hmy
      obtain ⟨pk, hpk⟩ : ∃ pk, ps.getD x.val 0 = pk := ⟨_, rfl⟩
      obtain ⟨bk, hbk⟩ : ∃ bk, bs.getD x.val 0 = bk := ⟨_, rfl⟩
      rw [hpk] at qp HTE
      rw [hbk] at qb HTE
      clear hpk hbk
      obtain ⟨ptk, hptk⟩ : ∃ ptk, pt S s (l.map fd) x.val = ptk := ⟨_, rfl⟩
      rw [hptk] at HTE HCO
      clear hptk
      generalize ((Value.slice (some ⟨w1.heap.size, frm S s x.val, none⟩) (frm S s (x.val + 1) - frm S s x.val) (n - frm S s x.val)) : Value) = PV at *
      have hkn2 : (x.val : Int) < (np : Int) := by omega
      have hkb2 : (x.val : Int) < (nb : Int) := by omega
      clear hnpl hnbl
      have hkl : x.val ≤ 32768 := by
        have h32 : P ≤ 32768 := by rw [← hP]; exact Nat.pow_le_pow_right (by decide) ho
        omega
      generalize szL S s m ps bs (l.map fd) (pre.map Fin.val) = SZ at *
      refine wpIn_block (wpIn_seq ?_)
      have noOut : ∀ j s, j < 20 → (([some 42, some 43, some 44, some 45, some 46, some 47, some 48, some 49, some 50, some 51, some 52, some 53, some 54, some 55, some 56, some 41, some 57, some 58, some 14, some 15] : List (Option Nat)).all fun d => d != some s) = true → ([some 42, some 43, some 44, some 45, some 46, some 47, some 48, some 49, some 50, some 51, some 52, some 53, some 54, some 55, some 56, some 41, some 57, some 58, some 14, some 15] : List (Option Nat)).getD j none ≠ some s := by
        intro j s hj ha e
        rw [List.getD_eq_getElem?_getD, List.getElem?_eq_getElem (by exact hj), Option.getD_some] at e
        have := List.all_eq_true.1 ha _ (List.getElem_mem (by exact hj))
        rw [e] at this
        simp at this
      refine region_val_in _ _ (by kernel_rfl) (fun k0 => ([some 42, some 43, some 44, some 45, some 46, some 47, some 48, some 49, some 50, some 51, some 52, some 53, some 54, some 55, some 56, some 41, some 57, some 58, some 14, some 15] : List (Option Nat)).getD k0 none) (fun k0 => ([(.pointer (some ⟨w.heap.size, 0, none⟩)), (iv m), (PV), (tellV Wz), (.pointer (some ⟨w.heap.size, 2, none⟩)), (.slice (some adp) np cp), (iv (x.val : Int)), (.pointer (some (adp.add x.val))), (iv pk), (.pointer (some ⟨w.heap.size, 3, none⟩)), (.slice (some adb) nb cb), (iv (x.val : Int)), (.pointer (some (adb.add x.val))), (iv bk), (.tuple #[iv sz, .bool my]), (.tuple #[iv sz, .bool my]), (iv sz), (.bool my), (iv sz), (.bool my)] : List Value).getD k0 undef) (TeW W m PV ptk) 65 20 rfl (by kernel_rfl) (by kernel_rfl) rfl (by kernel_rfl) (by kernel_rfl) (by kernel_rfl) ⟨(Only.refl Nix W).drew, fun _ => rfl, fun e => by cases e⟩ ?stepsR [(42, .pointer (some ⟨w.heap.size, 0, none⟩)), (43, iv m), (44, PV), (45, tellV Wz), (46, .pointer (some ⟨w.heap.size, 2, none⟩)), (47, .slice (some adp) np cp), (48, iv (x.val : Int)), (49, .pointer (some (adp.add x.val))), (50, iv pk), (51, .pointer (some ⟨w.heap.size, 3, none⟩)), (52, .slice (some adb) nb cb), (53, iv (x.val : Int)), (54, .pointer (some (adb.add x.val))), (55, iv bk), (56, .tuple #[iv sz, .bool my]), (41, .tuple #[iv sz, .bool my]), (57, iv sz), (58, .bool my), (14, iv sz), (15, .bool my)] rfl ?doneR
      case stepsR =>
        refine ⟨?_, ?_, ?_, ?_, ?_, ?_, ?_, ?_, ?_, ?_, ?_, ?_, ?_, ?_, ?_, ?_, ?_, ?_, ?_, ?_, trivial⟩
        · intro L A' u hW hL0 hnd K' hK
          have r3 : A'.tmps[3]? = some (.pointer (some ⟨w.heap.size, 0, none⟩)) := (hW.out 3 (fun j hj => noOut j 3 hj (by kernel_rfl))).trans rfl
          go_simp
          exact hK _ (hW.wi.same (by decide))
        · intro L A' u hW hL0 hnd K' hK
          have r42 : A'.tmps[42]? = some (.pointer (some ⟨w.heap.size, 0, none⟩)) := hW.val 0 42 (by decide) (hnd 0 (by kernel_rfl)) rfl
          have hc := cell_keep hW.wi.only q0
          go_simp
          exact hK _ (hW.wi.same (by decide))
        · intro L A' u hW hL0 hnd K' hK
          have r13 : A'.tmps[13]? = some (PV) := (hW.out 13 (fun j hj => noOut j 13 hj (by kernel_rfl))).trans rfl
          go_simp
          exact hK _ (hW.wi.same (by decide))
        · intro L A' u hW hL0 hnd K' hK
          have r43 : A'.tmps[43]? = some (iv m) := hW.val 1 43 (by decide) (hnd 1 (by kernel_rfl)) rfl
          have r44 : A'.tmps[44]? = some (PV) := hW.val 2 44 (by decide) (hnd 2 (by kernel_rfl)) rfl
          have HCL := Lib.hid (HCO.out u hW.wi.only)
          go_simp
          refine (HCL.out).mono ?_
          rintro e' u' ⟨rfl, ht', ho', _⟩
          have hz := hW.wi.begun hL0
          have hk := hK _ (hW.wi.asked hL0 ht' ho')
          rw [hz, HWz.out]
          exact hk
        · intro L A' u hW hL0 hnd K' hK
          have r3 : A'.tmps[3]? = some (.pointer (some ⟨w.heap.size, 0, none⟩)) := (hW.out 3 (fun j hj => noOut j 3 hj (by kernel_rfl))).trans rfl
          go_simp
          exact hK _ (hW.wi.same (by decide))
        · intro L A' u hW hL0 hnd K' hK
          have r46 : A'.tmps[46]? = some (.pointer (some ⟨w.heap.size, 2, none⟩)) := hW.val 4 46 (by decide) (hnd 4 (by kernel_rfl)) rfl
          have hc := cell_keep hW.wi.only q2
          go_simp
          exact hK _ (hW.wi.same (by decide))
        · intro L A' u hW hL0 hnd K' hK
          have r12 : A'.tmps[12]? = some (iv (x.val : Int)) := (hW.out 12 (fun j hj => noOut j 12 hj (by kernel_rfl))).trans rfl
          go_simp
          exact hK _ (hW.wi.same (by decide))
        · intro L A' u hW hL0 hnd K' hK
          have r47 : A'.tmps[47]? = some (.slice (some adp) np cp) := hW.val 5 47 (by decide) (hnd 5 (by kernel_rfl)) rfl
          have r48 : A'.tmps[48]? = some (iv (x.val : Int)) := hW.val 6 48 (by decide) (hnd 6 (by kernel_rfl)) rfl
          go_simp
          exact hK _ (hW.wi.same (by decide))
        · intro L A' u hW hL0 hnd K' hK
          have r49 : A'.tmps[49]? = some (.pointer (some (adp.add x.val))) := hW.val 7 49 (by decide) (hnd 7 (by kernel_rfl)) rfl
          have hc := cell_keep hW.wi.only qp
          go_simp
          exact hK _ (hW.wi.same (by decide))
        · intro L A' u hW hL0 hnd K' hK
          have r3 : A'.tmps[3]? = some (.pointer (some ⟨w.heap.size, 0, none⟩)) := (hW.out 3 (fun j hj => noOut j 3 hj (by kernel_rfl))).trans rfl
          go_simp
          exact hK _ (hW.wi.same (by decide))
        · intro L A' u hW hL0 hnd K' hK
          have r51 : A'.tmps[51]? = some (.pointer (some ⟨w.heap.size, 3, none⟩)) := hW.val 9 51 (by decide) (hnd 9 (by kernel_rfl)) rfl
          have hc := cell_keep hW.wi.only q3
          go_simp
          exact hK _ (hW.wi.same (by decide))
        · intro L A' u hW hL0 hnd K' hK
          have r12 : A'.tmps[12]? = some (iv (x.val : Int)) := (hW.out 12 (fun j hj => noOut j 12 hj (by kernel_rfl))).trans rfl
          go_simp
          exact hK _ (hW.wi.same (by decide))
        · intro L A' u hW hL0 hnd K' hK
          have r52 : A'.tmps[52]? = some (.slice (some adb) nb cb) := hW.val 10 52 (by decide) (hnd 10 (by kernel_rfl)) rfl
          have r53 : A'.tmps[53]? = some (iv (x.val : Int)) := hW.val 11 53 (by decide) (hnd 11 (by kernel_rfl)) rfl
          go_simp
          exact hK _ (hW.wi.same (by decide))
        · intro L A' u hW hL0 hnd K' hK
          have r54 : A'.tmps[54]? = some (.pointer (some (adb.add x.val))) := hW.val 12 54 (by decide) (hnd 12 (by kernel_rfl)) rfl
          have hc := cell_keep hW.wi.only qb
          go_simp
          exact hK _ (hW.wi.same (by decide))
        · intro L A' u hW hL0 hnd K' hK
          have r45 : A'.tmps[45]? = some (tellV Wz) := hW.val 3 45 (by decide) (hnd 3 (by kernel_rfl)) rfl
          have r50 : A'.tmps[50]? = some (iv pk) := hW.val 8 50 (by decide) (hnd 8 (by kernel_rfl)) rfl
          have r55 : A'.tmps[55]? = some (iv bk) := hW.val 13 55 (by decide) (hnd 13 (by kernel_rfl)) rfl
          have l3 : L 3 = true := hnd 3 (by kernel_rfl)
          have HCL := Lib.hid (HTE.out u (by rw [HWz2.out]; exact hW.wi.told l3))
          go_simp
          refine (HCL.out).mono ?_
          rintro e' u' ⟨rfl, n', rfl⟩
          exact hK _ (hW.wi.drewN n' (by decide))
        · intro L A' u hW hL0 hnd K' hK
          have r56 : A'.tmps[56]? = some (.tuple #[iv sz, .bool my]) := hW.val 14 56 (by decide) (hnd 14 (by kernel_rfl)) rfl
          go_simp
          exact hK _ (hW.wi.same (by decide))
        · intro L A' u hW hL0 hnd K' hK
          have r41 : A'.tmps[41]? = some (.tuple #[iv sz, .bool my]) := hW.val 15 41 (by decide) (hnd 15 (by kernel_rfl)) rfl
          go_simp
          exact hK _ (hW.wi.same (by decide))
        · intro L A' u hW hL0 hnd K' hK
          have r41 : A'.tmps[41]? = some (.tuple #[iv sz, .bool my]) := hW.val 15 41 (by decide) (hnd 15 (by kernel_rfl)) rfl
          go_simp
          exact hK _ (hW.wi.same (by decide))
        · intro L A' u hW hL0 hnd K' hK
          have r57 : A'.tmps[57]? = some (iv sz) := hW.val 16 57 (by decide) (hnd 16 (by kernel_rfl)) rfl
          go_simp
          exact hK _ (hW.wi.same (by decide))
        · intro L A' u hW hL0 hnd K' hK
          have r58 : A'.tmps[58]? = some (.bool my) := hW.val 17 58 (by decide) (hnd 17 (by kernel_rfl)) rfl
          go_simp
          exact hK _ (hW.wi.same (by decide))
      case doneR =>
        intro L u hWI hall
        have ho7 := hWI.only
        clear hWI hall noOut HTE HCO HWz HWz2
        simp only [putV, List.foldl_cons, List.foldl_nil]
        have hO2 := hO.trans ho7
        have bz2 := bz.only ho7 (fun e => e)
        have bp2 := bp.only ho7 (fun e => e)
        have b62 := b6.only ho7 (fun e => e)
        have b72 := b7.only ho7 (fun e => e)
        have bg2 := bg.only ho7 (fun e => e)
        have e6 := b62.cell 0
        have e7 := b72.cell 0
        have ez := bz2.cell 0
        simp only [List.getElem?_toArray, List.getElem?_cons_zero] at e6 e7 ez
        have f6 := b62.frozen 0
        have f7 := b72.frozen 0
        have fz := bz2.frozen 0
        have Hbz := Lib.hid bz2
        have Hbz0 := Lib.hid bz
        have Hb60 := Lib.hid b6
        have Hb70 := Lib.hid b7
        have Hbp := Lib.hid bp2
        have Hb6 := Lib.hid b62
        have Hb7 := Lib.hid b72
        have Hbg := Lib.hid bg2
        have Ho7 := Lib.hid ho7
        have HO2 := Lib.hid hO2
        clear bz2 bp2 b62 b72 bg2 bz bp b6 b7 bg ho7 hO2 hO q0 q2 q3 qz qp qb
        have hzb : w.heap.size + 3 ≤ w2.heap.size := by omega
        cases my with
        | true =>
          have Hm1 := Lib.hid (Hpm2.out.1 rfl)
          gi_wp2
          have hO3 := (Only.nix (F := Just w2.heap.size) Ho7.out).setCell (p := ⟨w2.heap.size, 0, none⟩) (.inl rfl) (iv ((6 + SZ + sz : Nat) : Int))
          have eS : ((6 + (SZ : Int)) + (sz : Int)) = ((6 + SZ + sz : Nat) : Int) := by omega
          rw [eS]
          refine ⟨keeps_of hO3 (fun k hk _ _ => by cases hk; exact ⟨_, _, Hbz0.out⟩), KeepB.of hO3 (by omega) (fun k h1 h2 e => by cases e; omega), ?_, ?_, ?_, ?_, ?_, Hm1.out, ?_, ?_⟩
          · have := Hbz.out.put 0 (iv ((6 + SZ + sz : Nat) : Int))
            rw [Hlk.out, Hsn.out, ← Nat.add_assoc]
            exact this
          · exact Hbp.out.off (p := ⟨w2.heap.size, 0, none⟩) (by show w.heap.size ≠ w2.heap.size; omega) _
          · exact Hb6.out.off (p := ⟨w2.heap.size, 0, none⟩) (by show w.heap.size + 1 ≠ w2.heap.size; omega) _
          · exact Hb7.out.off (p := ⟨w2.heap.size, 0, none⟩) (by show w.heap.size + 1 + 1 ≠ w2.heap.size; omega) _
          · exact Hbg.out.off (p := ⟨w2.heap.size, 0, none⟩) (by show w1.heap.size ≠ w2.heap.size; omega) _
          · exact HO2.out.setCell (p := ⟨w2.heap.size, 0, none⟩) (.inr (by show w.heap.size ≤ w2.heap.size; omega)) _
          · exact Nat.le_trans hbig hO3.size
        | false =>
          have Hm1 := Lib.hid (Hpm2.out.2 rfl)
          gi_wp2
          have hO3 := ((Only.nix (F := fun k => k = w.heap.size + 1 ∨ k = w.heap.size + 1 + 1) Ho7.out).setCell (p := ⟨w.heap.size + 1, 0, none⟩) (.inl (.inl rfl)) (Value.int .i64 0)).setCell (p := ⟨w.heap.size + 1 + 1, 0, none⟩) (.inl (.inr rfl)) (Value.int .i64 10)
          refine ⟨keeps_of hO3 (fun k hk _ _ => ?_), rfl, Hm1.out, ?_, ?_, ?_⟩
          · rcases hk with rfl | rfl
            · exact ⟨_, _, Hb60.out⟩
            · exact ⟨_, _, Hb70.out⟩
          · exact (Hb6.out.put 0 (Value.int .i64 0)).off (p := ⟨w.heap.size + 1 + 1, 0, none⟩) (by show w.heap.size + 1 ≠ w.heap.size + 1 + 1; omega) _
          · exact (Hb7.out.off (p := ⟨w.heap.size + 1, 0, none⟩) (by show w.heap.size + 1 + 1 ≠ w.heap.size + 1; omega) _).put 0 (Value.int .i64 10)
          · exact (HO2.out.setCell (p := ⟨w.heap.size + 1, 0, none⟩) (.inr (by show w.heap.size ≤ w.heap.size + 1; omega)) _).setCell (p := ⟨w.heap.size + 1 + 1, 0, none⟩) (.inr (by show w.heap.size ≤ w.heap.size + 1 + 1; omega)) _
    case done =>
      rintro D ys W hD hys hI hK
      rw [hys] at hI
      obtain ⟨bz, bp, b6, b7, bg, hmy, hO, hbig⟩ := hI
      have q6 := b6.cell 0
      have q7 := b7.cell 0
      have qz := bz.cell 0
      simp only [List.getElem?_toArray, List.getElem?_cons_zero] at q6 q7 qz
      have g6 := b6.frozen 0
      have g7 := b7.frozen 0
      have Hb6 := Lib.hid b6
      have Hb7 := Lib.hid b7
      have Hmy := Lib.hid hmy
      have HK := Lib.hid hK
      have HOw := Lib.hid hO
      clear hmy bz bp b6 b7 bg hK hO hys
      generalize hSZ : 6 + szL S s m ps bs (l.map fd) (List.range P) = SZ at *
      gi_wp2
      have k1 := (KeepsOthers.setCell W ⟨w.heap.size + 1, 0, none⟩ (iv (SZ : Int))).same D _ HK.out rfl
      have k2 := (KeepsOthers.setCell (W.setCell ⟨w.heap.size + 1, 0, none⟩ (iv (SZ : Int))) ⟨w.heap.size + 1 + 1, 0, none⟩ (Value.int .i64 0)).same D _ k1 rfl
      refine ⟨by simp, .inl ⟨_, _, rfl, run_takeDeferred k2, ?_⟩⟩
      have x6 := box_put ((Hb6.out.put 0 (iv (SZ : Int))).off (p := ⟨w.heap.size + 1 + 1, 0, none⟩) (by show w.heap.size + 1 ≠ w.heap.size + 1 + 1; omega) (Value.int .i64 0)) k2 rfl (.deferred none)
      have x7 := box_put ((Hb7.out.off (p := ⟨w.heap.size + 1, 0, none⟩) (by show w.heap.size + 1 + 1 ≠ w.heap.size + 1; omega) (iv (SZ : Int))).put 0 (Value.int .i64 0)) k2 rfl (.deferred none)
      have y6 := x6.cell 0
      have y7 := x7.cell 0
      simp at y6 y7
      have oF := only_put ((HOw.out.setCell (p := ⟨w.heap.size + 1, 0, none⟩) (.inr (by show w.heap.size ≤ w.heap.size + 1; omega)) (iv (SZ : Int))).setCell (p := ⟨w.heap.size + 1 + 1, 0, none⟩) (.inr (by show w.heap.size ≤ w.heap.size + 1 + 1; omega)) (Value.int .i64 0)) (D := D) (by omega) (.deferred none)
      refine ⟨.tuple #[iv (SZ : Int), iv 0], ?_, .inl ⟨⟨hR, fun k hk => Hmy.out k (List.mem_range.2 hk)⟩, by rw [hSZ]⟩, oF⟩
      simp [results, Tryz.f72, go_sem, y6, y7]
    case stop =>
      rintro D cd pre W hD _ ⟨rfl, hbad, b6, b7, hO⟩ hK
      gi_wp2
      refine ⟨by simp, .inl ⟨_, _, rfl, run_takeDeferred hK, ?_⟩⟩
      have y6 := (box_put b6 hK rfl (.deferred none)).cell 0
      have y7 := (box_put b7 hK rfl (.deferred none)).cell 0
      simp at y6 y7
      refine ⟨.tuple #[iv 0, iv 10], ?_, .inr ⟨fun h => hbad h.2, rfl⟩, only_put hO (by omega) _⟩
      simp [results, Tryz.f72, go_sem, y6, y7]
  · have c6' := cell_keep o2 c6
    have c7' := cell_keep o2 c7
    have f6' := (B11.out.only o2 (fun e => e)).frozen 0
    have f7' := (B21.out.only o2 (fun e => e)).frozen 0
    have H6 := Lib.hid (B11.out.only o2 (fun e => e))
    have H7 := Lib.hid (B21.out.only o2 (fun e => e))
    have HRb := Lib.hid hR
    have HO2 := Lib.hid (oA.trans o2)
    clear hR
    gi_wp2
    have y6 := ((H6.out.put 0 (Value.int .i64 0)).off (p := ⟨w.heap.size + 1 + 1, 0, none⟩) (by show w.heap.size + 1 ≠ w.heap.size + 1 + 1; omega) (Value.int .i64 10)).cell 0
    have y7 := ((H7.out.off (p := ⟨w.heap.size + 1, 0, none⟩) (by show w.heap.size + 1 + 1 ≠ w.heap.size + 1; omega) (Value.int .i64 0)).put 0 (Value.int .i64 10)).cell 0
    simp at y6 y7
    refine ⟨.tuple #[iv 0, iv 10], ?_, .inr ⟨fun h => HRb.out h.1, rfl⟩, (HO2.out.setCell (p := ⟨w.heap.size + 1, 0, none⟩) (.inr (by show w.heap.size ≤ w.heap.size + 1; omega)) _).setCell (p := ⟨w.heap.size + 1 + 1, 0, none⟩) (.inr (by show w.heap.size ≤ w.heap.size + 1 + 1; omega)) _⟩
    simp [results, Tryz.f72, go_sem, y6, y7]
end Go.Proofs.YteklfkpeaadinaaGreatDoor
