/-
  Slices of numbers, for the predictions' texts.
-/
import Derived.Test.YteklfkpeaadinaaGreatDoorPCG09
namespace Go.Proofs.YteklfkpeaadinaaGreatDoor
open Go.RowKit Go.Shelf

theorem ISrc.same {w w' : World} {v : Value} {xs : List Int} (h : ISrc w v xs) (hs : ∀ ad n c, v = .slice (some ad) n c → 0 < n → w'.heap[ad.block]? = w.heap[ad.block]?) : ISrc w' v xs := by
  obtain ⟨A, c, hv, hcap, hc⟩ := h.form
  refine ⟨⟨A, c, hv, hcap, fun j hj => ?_⟩, h.small, h.fits⟩
  obtain ⟨ad, hA, hx⟩ := hc j hj
  refine ⟨ad, hA, ?_⟩
  subst hA
  rw [World.cell?_of_block (w := w) (by rw [add_block]; exact hs ad _ c hv (by omega))]
  exact hx
theorem ISrc.blk {w : World} {v : Value} {xs : List Int} (h : ISrc w v xs) : ∀ ad n c, v = .slice (some ad) n c → 0 < n → ad.block < w.heap.size := by
  intro ad n c e hn
  subst e
  have hl := h.len
  obtain ⟨ad', e, hx⟩ := h.at_ (k := 0) (by omega)
  injection e with e
  subst e
  have := World.block_lt_of_cell? w _ hx
  rwa [add_block] at this
end Go.Proofs.YteklfkpeaadinaaGreatDoor
namespace Go.Proofs.YteklfkpeaadinaaGreatDoor.K
open Go.RowKit

/-- may a number be a sample -/
def isS (x : Int) : Prop := -4294967296 ≤ x ∧ x < 4294967296
instance (x : Int) : Decidable (isS x) := by unfold isS; exact inferInstance
/-- what samples tell by some of the coefficients -/
def dotL (cs xs : List Int) (at_ : Nat) (ks : List Nat) : Int := (ks.map fun k => cs.getD k 0 * xs.getD (at_ - 1 - k) 0).sum
def dot (cs xs : List Int) (at_ : Nat) : Int := dotL cs xs at_ (List.range cs.length)
/-- what a sample is told to be -/
def tld (sh : Nat) (cs xs : List Int) (at_ : Nat) : Int := dot cs xs at_ / 2 ^ sh
theorem dotL_snoc (cs xs : List Int) (at_ : Nat) (ks : List Nat) (k : Nat) : dotL cs xs at_ (ks ++ [k]) = dotL cs xs at_ ks + cs.getD k 0 * xs.getD (at_ - 1 - k) 0 := by simp [dotL]
theorem mul_bound {c x : Int} (hc : -16384 ≤ c ∧ c ≤ 16384) (hx : -4294967296 ≤ x ∧ x ≤ 4294967296) : -70368744177664 ≤ c * x ∧ c * x ≤ 70368744177664 := by
  have h := Nat.mul_le_mul (show c.natAbs ≤ 16384 by omega) (show x.natAbs ≤ 4294967296 by omega)
  rw [← Int.natAbs_mul] at h
  omega
theorem getD_all {p : Int → Prop} {l : List Int} (h : ∀ x ∈ l, p x) (h0 : p 0) (k : Nat) : p (l.getD k 0) := by
  rw [List.getD_eq_getElem?_getD]
  by_cases hk : k < l.length
  · rw [List.getElem?_eq_getElem hk]; exact h _ (List.getElem_mem hk)
  · rw [List.getElem?_eq_none (by omega)]; exact h0
theorem dotL_bound (cs xs : List Int) (at_ : Nat) (hc : ∀ c ∈ cs, -16384 ≤ c ∧ c ≤ 16384) (hx : ∀ j, j < at_ → isS (xs.getD j 0)) (ha : 0 < at_) (ks : List Nat) :
    -(70368744177664 * (ks.length : Int)) ≤ dotL cs xs at_ ks ∧ dotL cs xs at_ ks ≤ 70368744177664 * (ks.length : Int) := by
  induction ks with
  | nil => simp [dotL]
  | cons k ks ih =>
    have h1 := getD_all (p := fun c => -16384 ≤ c ∧ c ≤ 16384) hc (by omega) k
    have h2 := hx (at_ - 1 - k) (by omega)
    unfold isS at h2
    have h3 := mul_bound h1 (x := xs.getD (at_ - 1 - k) 0) (by omega)
    unfold dotL at ih ⊢
    rw [List.map_cons, List.sum_cons, List.length_cons]
    omega
theorem dot_zero (xs : List Int) (at_ : Nat) : dot [] xs at_ = 0 := rfl
/-- what is told is not great -/
theorem dot_bound (cs xs : List Int) (at_ : Nat) (hc : ∀ c ∈ cs, -16384 ≤ c ∧ c ≤ 16384) (hx : ∀ j, j < at_ → isS (xs.getD j 0)) (ha : cs.length ≤ at_) (h32 : cs.length ≤ 32) :
    -2251799813685248 ≤ dot cs xs at_ ∧ dot cs xs at_ ≤ 2251799813685248 := by
  by_cases h0 : cs = []
  · subst h0; rw [dot_zero]; omega
  · have hl : 0 < cs.length := List.length_pos_iff.2 h0
    have h := dotL_bound cs xs at_ hc hx (by omega) (List.range cs.length)
    rw [List.length_range] at h
    unfold dot
    omega
theorem fdiv_bound {a : Int} (sh : Nat) (h : -2251799813685248 ≤ a ∧ a ≤ 2251799813685248) : -2251799813685248 ≤ a / 2 ^ sh ∧ a / 2 ^ sh ≤ 2251799813685248 := by
  have h1 := Nat.two_pow_pos sh
  rw [pow_cast]
  generalize 2 ^ sh = K at *
  have hp : (0 : Int) < (K : Int) := by omega
  constructor
  · refine (Int.le_ediv_iff_mul_le hp).2 ?_
    omega
  · have h2 : a / (K : Int) < 2251799813685248 + 1 := by
      refine (Int.ediv_lt_iff_lt_mul hp).2 ?_
      omega
    omega
theorem tld_bound (sh : Nat) (cs xs : List Int) (at_ : Nat) (hc : ∀ c ∈ cs, -16384 ≤ c ∧ c ≤ 16384) (hx : ∀ j, j < at_ → isS (xs.getD j 0)) (ha : cs.length ≤ at_) (h32 : cs.length ≤ 32) :
    -2251799813685248 ≤ tld sh cs xs at_ ∧ tld sh cs xs at_ ≤ 2251799813685248 := fdiv_bound sh (dot_bound cs xs at_ hc hx ha h32)
end Go.Proofs.YteklfkpeaadinaaGreatDoor.K
namespace Go.Proofs.YteklfkpeaadinaaGreatDoor.K
open Go.RowKit Go.Shelf
attribute [local go_sem] Oper.semAt_some
/-- blocks ahead of N but z are as they were -/
def KeepN (N z : Nat) (W W' : World) : Prop := ∀ k, k < N → k ≠ z → W'.heap[k]? = W.heap[k]?
theorem KeepN.t {N z : Nat} {X Y Z : World} (h : KeepN N z X Y) (k : KeepN N z Y Z) : KeepN N z X Z := fun i h1 h2 => (k i h1 h2).trans (h i h1 h2)
theorem KeepN.refl (N z : Nat) (X : World) : KeepN N z X X := fun _ _ _ => rfl
theorem KeepN.b {N z : Nat} {w : World} (hN : N ≤ w.heap.size) (W : World) (l : Nat) (o o' : Obj) (hl : w.heap.size ≤ l) (_ : W.heap[l]? = some o) (_ : o.isCells = false) (_ : o.isWalk = false) : KeepN N z W (W.putObj l o') :=
  fun k h1 _ => World.putObj_heap_other (by omega)
/-- a sample as it comes -/
def backE (ys : List Int) (k : Fin ys.length) : Array Value := #[iv (k.val : Int), iv (ys.getD (ys.length - 1 - k.val) 0)]
set_option maxRecDepth 100000 in
set_option maxHeartbeats 2000000 in
theorem backs1_in (l N z D c : Nat) (A : Option Addr) (ys : List Int) (J Jx : List (Fin ys.length) → World → Prop)
    (hY : ∀ pre x W, J pre W → pre.length < ys.length → YieldAt Fence.wide 2 Tryz.prog l (backE ys x) W fun e W' =>
      (e = .returned (.bool true) ∧ J (pre ++ [x]) W' ∧ KeepN N z W W') ∨ (e = .returned (.bool false) ∧ Jx (pre ++ [x]) W'))
    (W : World) (hD : D < N) (hDz : D ≠ z) (hb : Box W D 22 #[.slice A ys.length c]) (hs : ISrc W (.slice A ys.length c) ys)
    (hsb : ∀ ad, A = some ad → 0 < ys.length → ad.block < N ∧ ad.block ≠ z) (h0 : J [] W) :
    CallsIn Fence.wide 3 Tryz.prog 139 (#[.func (.yield l) #[] #[]] ++ #[.pointer (some ⟨D, 0, none⟩)]) W fun e W' => (∃ v, e = .returned v) ∧
      ((∃ ps : List (Fin ys.length), ps.map Fin.val = List.range ys.length ∧ J ps W') ∨ (∃ pre : List (Fin ys.length), (∃ k, k ≤ ys.length ∧ pre.map Fin.val = List.range k) ∧ Jx pre W')) := by
  have hsm := hs.small
  have d0 := hb.cell 0
  simp only [List.getElem?_toArray, List.getElem?_cons_zero] at d0
  have HB := Lib.hid hb
  have HS := Lib.hid hs
  obtain ⟨n, hn⟩ : ∃ n, ys.length = n := ⟨_, rfl⟩
  have HN := Lib.hid hn
  have hsm2 : n ≤ 140737488355328 := by omega
  clear hb hs hsm
  refine callsIn_of_wp Tryz.func139 rfl trivial ?_ rfl
  simp only [Tryz.ntmps139, List.size_toArray, List.length_cons, List.length_nil, Nat.reduceAdd, Nat.reduceSub, Array.replicate_succ, Array.replicate_zero, List.push_toArray, List.append_toArray, List.nil_append, List.cons_append]
  rw [hn] at d0
  gi_wp2
  gi_loopw [6] (fun s6 wr => ∃ k : Nat, k ≤ ys.length ∧ s6 = iv k ∧ (∃ pre : List (Fin ys.length), pre.map Fin.val = List.range k ∧ J pre wr) ∧ KeepN N z W wr)
    (fun s6 _ => ys.length - (intOf s6).toNat)
  case atStart => exact ⟨0, Nat.zero_le _, rfl, ⟨[], rfl, h0⟩, KeepN.refl _ _ _⟩
  case round =>
    obtain ⟨k, hk, rfl, ⟨pre, hpre, hJs⟩, hK⟩ := hrel
    have e0 : wr.cell? ⟨D, 0, none⟩ = some (.slice A n c) := by rw [World.cell?_of_block (w := W) (hK D hD hDz)]; exact d0
    by_cases hlt : k < n
    · have hltx : k < ys.length := by rw [HN.out]; exact hlt
      have hlen : pre.length = k := by have := congrArg List.length hpre; simpa using this
      obtain ⟨fn, tmps, assign, body, hy, hR⟩ := hY pre ⟨k, hltx⟩ wr hJs (by omega)
      have hs2 : ISrc wr (.slice A ys.length c) ys := HS.out.same (fun ad n' c' e h1 => by
        injection e with e1 e2 _
        obtain ⟨h2, h3⟩ := hsb ad e1 (by omega)
        exact hK ad.block h2 h3)
      obtain ⟨ad, rfl, hx⟩ := hs2.at_ (k := ys.length - 1 - k) (by omega)
      have eg : ys.getD (ys.length - 1 - k) 0 = ys[ys.length - 1 - k]'(by omega) := by rw [List.getD_eq_getElem?_getD, List.getElem?_eq_getElem (by omega)]; rfl
      rw [← eg] at hx
      unfold backE at hy
      dsimp only at hy
      have hft := HS.out.fits (ys.getD (ys.length - 1 - k) 0) (by rw [eg]; exact List.getElem_mem _)
      generalize ys.getD (ys.length - 1 - k) 0 = y at *
      rw [HN.out] at hx
      obtain ⟨q, hq⟩ : ∃ q, n - 1 - k = q := ⟨_, rfl⟩
      rw [hq] at hx
      have hq2 : (n : Int) - 1 - (k : Int) = (q : Int) := by omega
      have hqn : q < n := by omega
      have hqni : (q : Int) < (n : Int) := by omega
      have hlt2 : (k : Int) < (n : Int) := by omega
      clear eg hs2 hq hn
      gi_wp2
      refine hR.mono ?_
      rintro e W3 (⟨rfl, hJ3, hk3⟩ | ⟨rfl, hJx3⟩)
      · gi_wp2
        go_roundw
        case rel => exact ⟨k + 1, hltx, by go_num, ⟨pre ++ [⟨k, hltx⟩], by rw [List.map_append, hpre, List.range_succ]; rfl, hJ3⟩, hK.t hk3⟩
        case measure => simp [intOf]; omega
      · gi_wp2
        refine bodyPost_ret (results_none rfl _ _ _) rfl ?_
        exact ⟨⟨_, rfl⟩, .inr ⟨_, ⟨k + 1, hltx, by rw [List.map_append, hpre, List.range_succ]; rfl⟩, hJx3⟩⟩
    · obtain rfl : k = n := by omega
      gi_wp2
      go_end0
      exact ⟨⟨_, rfl⟩, .inl ⟨_, by rw [hpre, HN.out], hJs⟩⟩
/-- backwards' answer: each sample, the last one first -/
theorem backs_stops {N z D c : Nat} {A : Option Addr} {ys : List Int} {w : World} (hN : N ≤ w.heap.size) (hD : D < N) (hDz : D ≠ z) (hb : Box w D 22 #[.slice A ys.length c]) (hs : ISrc w (.slice A ys.length c) ys)
    (hsb : ∀ ad, A = some ad → 0 < ys.length → ad.block < N ∧ ad.block ≠ z) :
    SeqStopsK Fence.wide 3 Tryz.prog 139 #[.pointer (some ⟨D, 0, none⟩)] (backE ys) (KeepN N z) (fun ps => ps.map Fin.val = List.range ys.length) (fun pre => ∃ k, k ≤ ys.length ∧ pre.map Fin.val = List.range k) ys.length w :=
  fun l J Jx W hW _ _ hY h0 => backs1_in l N z D c A ys J Jx hY W hD hDz ((hW.block D (by omega)).trans hb) (hs.same (fun ad n' c' e h1 => by
    injection e with e1 e2 _
    exact hW.block ad.block (Nat.lt_of_lt_of_le (hsb ad e1 (by omega)).1 hN))) hsb h0
set_option maxHeartbeats 1000000 in
theorem backwards_any {w : World} (v : Value) (A : Option Addr) (n c : Nat) (hv : v = .slice A n c) :
    Calls Tryz.prog 132 #[v] w fun e w' => e = .returned (.func (.func 139) #[] #[.pointer (some ⟨w.heap.size, 0, none⟩)]) ∧ w' = w.alloc (.cells #[v] 22) := by
  subst hv
  go_enter Tryz.func132, Tryz.ntmps132
  go_wp2
  go_ret
  exact ⟨rfl, rfl⟩
end Go.Proofs.YteklfkpeaadinaaGreatDoor.K
namespace Go.Proofs.YteklfkpeaadinaaGreatDoor.K
open Go.RowKit Go.Shelf
attribute [local go_sem] Oper.semAt_some
/-- a prediction -/
abbrev linV (P S : Int) (v : Value) : Value := .agg #[iv P, iv S, v]
/-- where the closure's own lie -/
structure Tl (w : World) (B : Nat) (P S : Int) (vc vs : Value) (o : Nat) : Prop where
  b0 : Box w B 24 #[iv P, iv S, vc]
  b1 : Box w (B + 1) 22 #[vs]
  b2 : Box w (B + 2) 3 #[iv o]
theorem Tl.only {F : Nat → Prop} {w w' : World} {B o : Nat} {P S : Int} {vc vs : Value} (h : Tl w B P S vc vs o) (ho : Only F w w') (hF : ∀ k, B ≤ k → k < B + 3 → ¬ F k) : Tl w' B P S vc vs o :=
  ⟨h.b0.only ho (hF _ (by omega) (by omega)), h.b1.only ho (hF _ (by omega) (by omega)), h.b2.only ho (hF _ (by omega) (by omega))⟩
/-- the closure -/
abbrev tellV (B : Nat) : Value := .func (.func 131) #[] #[.pointer (some ⟨B + 1, 0, none⟩), .pointer (some ⟨B + 2, 0, none⟩), .pointer (some ⟨B, 0, none⟩)]
set_option maxHeartbeats 1000000 in
theorem teller_any {w : World} (P S : Int) (Ac : Option Addr) (nc cc : Nat) (A : Option Addr) (n c : Nat) (_ : nc ≤ 140737488355328) :
    Calls Tryz.prog 115 #[linV P S (.slice Ac nc cc), .slice A n c] w fun e w' => e = .returned (tellV w.heap.size) ∧ Tl w' w.heap.size P S (.slice Ac nc cc) (.slice A n c) nc ∧ Only Nix w w' := by
  have HO := Lib.hid ((((Only.refl Nix w).alloc (.cells #[iv P, iv S, .slice Ac nc cc] 24)).alloc (.cells #[.slice A n c] 22)).alloc (.cells #[iv nc] 3))
  have b0 := ((Box.new w 24 #[iv P, iv S, .slice Ac nc cc]).alloc (.cells #[.slice A n c] 22)).alloc (.cells #[iv nc] 3)
  have b1 := (Box.new (w.alloc (.cells #[iv P, iv S, .slice Ac nc cc] 24)) 22 #[.slice A n c]).alloc (.cells #[iv nc] 3)
  have b2 := Box.new ((w.alloc (.cells #[iv P, iv S, .slice Ac nc cc] 24)).alloc (.cells #[.slice A n c] 22)) 3 #[iv nc]
  rw [World.size_alloc] at b1
  rw [World.size_alloc, World.size_alloc] at b2
  have B0 := Lib.hid b0
  have B1 := Lib.hid b1
  have B2 := Lib.hid b2
  clear b0 b1 b2
  go_enter Tryz.func115, Tryz.ntmps115
  go_wp2
  go_ret
  refine ⟨rfl, ?_, ?_⟩
  · exact ⟨B0.out, B1.out, B2.out⟩
  · exact HO.out
theorem w64k (n : Int) (h0 : -9223372036854775808 ≤ n) (h1 : n ≤ 9223372036854775807) : IntKind.i64.wrap n = n := by rw [IntKind.wrap_i64]; omega
theorem notYet {ops : Array Oper} {L : Nat → Bool} (hc : ∀ j o k, ops[j]? = some o → L j = true → needs o k = true → L k = true) {j k : Nat} {o : Oper} (ho : ops[j]? = some o) (hn : needs o k = true) (hk : L k = false) : L j = false := by
  cases h : L j with
  | false => rfl
  | true => rw [hc j o k ho h hn] at hk; cases hk
/-- the sum is stored, or not yet -/
structure AcW (W : World) (z : Nat) (v v' : Int) (L : Nat → Bool) (u : World) : Prop where
  only : Only (Just z) W u
  old : L 9 = false → Box u z 3 #[iv v]
  new : L 9 = true → Box u z 3 #[iv v']
theorem AcW.same {W u : World} {z : Nat} {v v' : Int} {L : Nat → Bool} {i : Nat} (h : AcW W z v v' L u) (hi : 9 ≠ i) : AcW W z v v' (andOne L i) u := by
  refine ⟨h.only, fun e => h.old ?_, fun e => h.new ?_⟩
  · unfold andOne at e; rwa [if_neg hi] at e
  · unfold andOne at e; rwa [if_neg hi] at e
theorem AcW.stored {W u : World} {z : Nat} {v v' : Int} {L : Nat → Bool} (h : AcW W z v v' L u) (hL : L 9 = false) : AcW W z v v' (andOne L 9) (u.setCell ⟨z, 0, none⟩ (iv v')) := by
  refine ⟨h.only.setCell (p := ⟨z, 0, none⟩) (.inl rfl) _, fun e => ?_, fun _ => (h.old hL).put 0 (iv v')⟩
  unfold andOne at e
  rw [if_pos rfl] at e
  cases e
/-- between two rounds -/
structure TeI (w : World) (cs xs : List Int) (at_ : Nat) (ks : List Nat) (W : World) : Prop where
  bz : Box W w.heap.size 3 #[iv (dotL cs xs at_ ks)]
  only : Only Nix w W
  big : w.heap.size + 2 ≤ W.heap.size
theorem TeI.own {w : World} {cs xs : List Int} {at_ n B : Nat} (hB : w.heap.size ≤ B) : OwnFrom B (fun (pre : List (Fin n)) W => TeI w cs xs at_ (pre.map Fin.val) W) :=
  fun _ _ _ _ hs hg hr => ⟨box_abide hs.bz hg hr, own_only (β := Unit) hB () _ _ _ hs.only hg hr, Nat.le_trans hs.big hg.size⟩
set_option maxRecDepth 100000 in
set_option maxHeartbeats 4000000 in
theorem tell_more {w : World} {B : Nat} {P : Int} {s o n k c cc at_ : Nat} {Ac A : Option Addr} {cs xs : List Int} (hT : Tl w B P (s : Int) (.slice Ac o cc) (.slice A n c) o)
    (hcs : ISrc w (.slice Ac o cc) cs) (hxs : ISrc w (.slice A n c) xs) (hat : at_ ≤ n) (hk : o + k = at_) (hcn : n ≤ c) (hck : ¬ c = k) (h32 : o ≤ 32) (hs : s ≤ 15)
    (hcb : ∀ x ∈ cs, -16384 ≤ x ∧ x ≤ 16384) (hxb : ∀ j, j < at_ → isS (xs.getD j 0)) :
    Calls Tryz.prog 131 #[iv at_, .pointer (some ⟨B + 1, 0, none⟩), .pointer (some ⟨B + 2, 0, none⟩), .pointer (some ⟨B, 0, none⟩)] w fun e w' => e = .returned (iv (tld s cs xs at_)) ∧ Only Nix w w' := by
  have hco := hcs.len
  have hxn := hxs.len
  have hsm := hxs.small
  rw [← hxn] at hsm
  have hkn : k ≤ n := by omega
  have hak : at_ - k = o := by omega
  have hki : (at_ : Int) - (o : Int) = (k : Int) := by omega
  have hB2 := hT.b2.lt
  have hB0 := hT.b0.lt
  have hB1 := hT.b1.lt
  have d1 := (hT.b1.alloc (.cells #[iv 0] 3)).cell 0
  have d2 := (hT.b2.alloc (.cells #[iv 0] 3)).cell 0
  simp only [List.getElem?_toArray, List.getElem?_cons_zero] at d1 d2
  have hys : ∃ ys, ISrc w (.slice (A.map (fun ad => ad.add k)) o (c - k)) ys ∧ ys.length = o ∧ ys = (xs.drop k).take o := by
    refine ⟨(xs.drop k).take o, ?_, by simp; omega, rfl⟩
    obtain rfl | ⟨ad, rfl⟩ : A = none ∨ ∃ ad, A = some ad := by cases A with | none => exact .inl rfl | some a => exact .inr ⟨a, rfl⟩
    · have h0 : xs.length = 0 := by
        rcases Nat.eq_zero_or_pos xs.length with h | h
        · exact h
        · obtain ⟨_, e, _⟩ := hxs.at_ h
          cases e
      have ho : o = 0 := by omega
      subst ho
      rw [List.take_zero]
      exact ⟨⟨_, _, rfl, Nat.zero_le _, fun j hj => by simp at hj⟩, by simp, by simp⟩
    · exact hxs.sub k o (by omega) (c - k) (by omega)
  obtain ⟨ys, hys, hyl, hye⟩ := hys
  have hyk : ∀ j, j < o → ys.getD (o - 1 - j) 0 = xs.getD (at_ - 1 - j) 0 := by
    intro j hj
    rw [hye, List.getD_eq_getElem?_getD, List.getD_eq_getElem?_getD, List.getElem?_take_of_lt (by omega), List.getElem?_drop]
    congr 2
    omega
  have hys2 := hys.nix ((Only.refl Nix w).alloc (.cells #[iv 0] 3))
  have hBa := Lib.hid (backwards_any (w := w.alloc (.cells #[iv 0] 3)) (.slice (A.map (fun ad => ad.add k)) o (c - k)) _ _ _ rfl)
  have HT := Lib.hid hT
  have HC := Lib.hid hcs
  have HX := Lib.hid hxs
  have Hco := Lib.hid hco
  have Hxn := Lib.hid hxn
  have Hyl := Lib.hid hyl
  have Hys := Lib.hid hys
  have Hyk := Lib.hid hyk
  have Hhk := Lib.hid hk
  clear hT hcs hxs hye hco hxn hyl hys hyk hys2 hk
  refine (callsIn_wide (n := 4)).1 ?_
  refine callsIn_of_wp_marks Tryz.func131 rfl trivial ?_ rfl
  simp only [Tryz.ntmps131, List.size_toArray, List.length_cons, List.length_nil, Nat.reduceAdd, Nat.reduceSub, Array.replicate_succ, Array.replicate_zero, List.push_toArray, List.append_toArray, List.nil_append, List.cons_append]
  gi_wp2_with fail
  refine ⟨trivial, (callsIn_wide.2 hBa.out).mono ?_⟩
  rintro e w2 ⟨rfl, rfl⟩
  gi_wp2_with fail
  clear d1 d2 hBa
  have hsz2 : ((w.alloc (.cells #[iv 0] 3)).alloc (.cells #[.slice (A.map (fun ad => ad.add k)) o (c - k)] 22)).heap.size = w.heap.size + 2 := by simp
  have bz := (Box.new w 3 #[iv 0]).alloc (.cells #[.slice (A.map (fun ad => ad.add k)) o (c - k)] 22)
  have bd := Box.new (w.alloc (.cells #[iv 0] 3)) 22 #[.slice (A.map (fun ad => ad.add k)) o (c - k)]
  rw [World.size_alloc] at bd
  have o2 := ((Only.refl Nix w).alloc (.cells #[iv 0] 3)).alloc (.cells #[.slice (A.map (fun ad => ad.add k)) o (c - k)] 22)
  generalize (w.alloc (.cells #[iv 0] 3)).alloc (.cells #[.slice (A.map (fun ad => ad.add k)) o (c - k)] 22) = w2 at *
  have hys2 := Hys.out.nix o2
  have HYS2 := Lib.hid hys2
  have Hbd := Lib.hid bd
  have Hsb := Lib.hid (Hys.out.blk)
  clear hys2 bd
  have hbk : ∀ ad, (A.map (fun ad => ad.add k)) = some ad → 0 < ys.length → ad.block < w.heap.size + 2 ∧ ad.block ≠ w.heap.size := fun ad e h0 => by
    have := Hsb.out ad o (c - k) (by rw [e]) (by rw [← Hyl.out]; exact h0)
    omega
  have hstops := backs_stops (N := w.heap.size + 2) (z := w.heap.size) (D := w.heap.size + 1) (c := c - k) (A := (A.map (fun ad => ad.add k))) (ys := ys) (w := w2) (by omega) (by omega) (by omega) (by rw [Hyl.out]; exact Hbd.out) (by rw [Hyl.out]; exact HYS2.out) hbk
  have HST := Lib.hid hstops
  clear hstops hbk
  refine wpIn_rangeFunc_ownG rfl (by decide) (gf := 139) (lb := #[.pointer (some ⟨w.heap.size + 1, 0, none⟩)]) rfl trivial (enters_of Tryz.func139 (by kernel_rfl) rfl)
    HST.out KeepN.t (KeepN.b (by omega)) (Below.refl _ _) (fun _ => rfl)
    (fun pre W => TeI w cs xs at_ (pre.map Fin.val) W) (fun _ _ _ => False)
    (TeI.own (by omega)) (fun _ _ _ _ _ h _ _ => h)
    ⟨bz, o2, by omega⟩
    (fun x => { tmps := #[iv at_, .pointer (some ⟨B + 1, 0, none⟩), .pointer (some ⟨B + 2, 0, none⟩), .pointer (some ⟨B, 0, none⟩), undef, .int .i64 0, .pointer (some ⟨w.heap.size, 0, none⟩), iv (x.val : Int), iv (ys.getD (ys.length - 1 - x.val) 0), .slice A n c, iv at_, iv o, iv k, iv at_, .slice (A.map (fun ad => ad.add k)) o (c - k), .func (.func 139) #[] #[.pointer (some ⟨w.heap.size + 1, 0, none⟩)], iv (x.val : Int), iv (ys.getD (ys.length - 1 - x.val) 0), undef, undef, undef, undef, undef, undef, undef, undef, undef, undef, undef, undef, undef], defers := [] }) ?assign ?body ?done ?stop
  case assign =>
    intro l x W K hK
    unfold backE
    gi_wp2
    exact hK
  case body =>
    rintro lp pre x W ⟨bz, hO, hbig⟩ hpl
    have hxo : x.val < o := by rw [← Hyl.out]; exact x.isLt
    have b0 := HT.out.b0.only hO (fun e => e)
    have q2 := b0.cell 2
    have qz := bz.cell 0
    have fz := bz.frozen 0
    simp only [List.getElem?_toArray, List.getElem?_cons_zero, List.getElem?_cons_succ] at q2 qz
    obtain ⟨adc, rfl, qc⟩ := (HC.out.nix hO).at_ (k := x.val) (by rw [← Hco.out]; exact hxo)
    have eg : cs.getD x.val 0 = cs[x.val]'(by rw [← Hco.out]; exact hxo) := by rw [List.getD_eq_getElem?_getD, List.getElem?_eq_getElem (by rw [← Hco.out]; exact hxo)]; rfl
    rw [← eg] at qc
    have hpc : cs.getD x.val 0 ∈ cs := by rw [eg]; exact List.getElem_mem _
    have hcv := hcb _ hpc
    have ey : ys.getD (ys.length - 1 - x.val) 0 = xs.getD (at_ - 1 - x.val) 0 := by rw [← Hyk.out x.val hxo]; congr 1; have := Hyl.out; omega
    rw [ey]
    have hxv := hxb (at_ - 1 - x.val) (by have := Hhk.out; omega)
    unfold isS at hxv
    have hm := mul_bound hcv (x := xs.getD (at_ - 1 - x.val) 0) (by omega)
    have Hsn := Lib.hid (dotL_snoc cs xs at_ (pre.map Fin.val) x.val)
    have hdb := dotL_bound cs xs at_ hcb hxb (by have := Hhk.out; omega) (pre.map Fin.val)
    rw [List.length_map] at hdb
    have hpl2 : (pre.length : Int) ≤ 32 := by have := Hyl.out; omega
    have Hlk : Hid ((pre ++ [x]).map Fin.val = pre.map Fin.val ++ [x.val]) := Lib.hid (by rw [List.map_append]; rfl)
    generalize xs.getD (at_ - 1 - x.val) 0 = y at *
    generalize cs.getD x.val 0 = cv at *
    generalize dotL cs xs at_ (pre.map Fin.val) = dl at *
    have hxi : (x.val : Int) < (o : Int) := by omega
    obtain ⟨pr, hpr⟩ : ∃ pr, cv * y = pr := ⟨_, rfl⟩
    rw [hpr] at hm
    have hs1 : -9223372036854775808 ≤ dl + pr ∧ dl + pr ≤ 9223372036854775807 := by omega
    have hnB : ¬ Just w.heap.size (⟨B, 2, none⟩ : Addr).block := by show ¬ B = w.heap.size; omega
    have hnC : ¬ Just w.heap.size (adc.add x.val).block := by
      rw [add_block]
      have := HC.out.blk adc o cc rfl (by omega)
      show ¬ adc.block = w.heap.size
      omega
    have Hbz := Lib.hid bz
    have HO := Lib.hid hO
    have Hq := Lib.hid hpr
    clear bz b0 eg hpc ey hpl hdb hO hcb hxb
    refine wpIn_block ?_
    have noOut : ∀ j s, j < 10 → (([some 18, some 19, some 20, some 21, some 22, some 23, some 24, some 25, some 26, none] : List (Option Nat)).all fun d => d != some s) = true → ([some 18, some 19, some 20, some 21, some 22, some 23, some 24, some 25, some 26, none] : List (Option Nat)).getD j none ≠ some s := by
      intro j s hj ha e
      rw [List.getD_eq_getElem?_getD, List.getElem?_eq_getElem (by exact hj), Option.getD_some] at e
      have := List.all_eq_true.1 ha _ (List.getElem_mem (by exact hj))
      rw [e] at this
      simp at this
    refine region_val_in _ _ (by kernel_rfl) (fun k0 => ([some 18, some 19, some 20, some 21, some 22, some 23, some 24, some 25, some 26, none] : List (Option Nat)).getD k0 none) (fun k0 => ([(iv dl), (.pointer (some ⟨B, 2, none⟩)), (.slice (some adc) o cc), (iv (x.val : Int)), (.pointer (some (adc.add x.val))), (iv cv), (iv y), (iv pr), (iv (dl + pr)), (undef)] : List Value).getD k0 undef) (AcW W w.heap.size dl (dl + pr)) 31 10 rfl (by kernel_rfl) (by kernel_rfl) rfl (by kernel_rfl) (by kernel_rfl) (by kernel_rfl) ⟨(Only.refl _ W).drew, fun _ => Hbz.out, fun e => by cases e⟩ ?stepsR [(18, iv dl), (19, .pointer (some ⟨B, 2, none⟩)), (20, .slice (some adc) o cc), (21, iv (x.val : Int)), (22, .pointer (some (adc.add x.val))), (23, iv cv), (24, iv y), (25, iv pr), (26, iv (dl + pr))] rfl ?doneR
    case stepsR =>
      refine ⟨?_, ?_, ?_, ?_, ?_, ?_, ?_, ?_, ?_, ?_, trivial⟩
      · intro L A' u hW hL0 hnd K' hK
        have r6 : A'.tmps[6]? = some (.pointer (some ⟨w.heap.size, 0, none⟩)) := (hW.out 6 (fun j hj => noOut j 6 hj (by kernel_rfl))).trans rfl
        have hns : L 9 = false := notYet hW.closed (j := 9) (by rfl) (k := 0) (by kernel_rfl) hL0
        have hc := (hW.wi.old hns).cell 0
        simp only [List.getElem?_toArray, List.getElem?_cons_zero] at hc
        go_simp
        exact hK _ (hW.wi.same (by decide))
      · intro L A' u hW hL0 hnd K' hK
        have r3 : A'.tmps[3]? = some (.pointer (some ⟨B, 0, none⟩)) := (hW.out 3 (fun j hj => noOut j 3 hj (by kernel_rfl))).trans rfl
        go_simp
        exact hK _ (hW.wi.same (by decide))
      · intro L A' u hW hL0 hnd K' hK
        have r19 : A'.tmps[19]? = some (.pointer (some ⟨B, 2, none⟩)) := hW.val 1 19 (by decide) (hnd 1 (by kernel_rfl)) rfl
        have hc := cell_only hW.wi.only q2 hnB
        go_simp
        exact hK _ (hW.wi.same (by decide))
      · intro L A' u hW hL0 hnd K' hK
        have r7 : A'.tmps[7]? = some (iv (x.val : Int)) := (hW.out 7 (fun j hj => noOut j 7 hj (by kernel_rfl))).trans rfl
        go_simp
        exact hK _ (hW.wi.same (by decide))
      · intro L A' u hW hL0 hnd K' hK
        have r20 : A'.tmps[20]? = some (.slice (some adc) o cc) := hW.val 2 20 (by decide) (hnd 2 (by kernel_rfl)) rfl
        have r21 : A'.tmps[21]? = some (iv (x.val : Int)) := hW.val 3 21 (by decide) (hnd 3 (by kernel_rfl)) rfl
        go_simp
        exact hK _ (hW.wi.same (by decide))
      · intro L A' u hW hL0 hnd K' hK
        have r22 : A'.tmps[22]? = some (.pointer (some (adc.add x.val))) := hW.val 4 22 (by decide) (hnd 4 (by kernel_rfl)) rfl
        have hc := cell_only hW.wi.only qc hnC
        go_simp
        exact hK _ (hW.wi.same (by decide))
      · intro L A' u hW hL0 hnd K' hK
        have r8 : A'.tmps[8]? = some (iv y) := (hW.out 8 (fun j hj => noOut j 8 hj (by kernel_rfl))).trans rfl
        go_simp
        exact hK _ (hW.wi.same (by decide))
      · intro L A' u hW hL0 hnd K' hK
        have r23 : A'.tmps[23]? = some (iv cv) := hW.val 5 23 (by decide) (hnd 5 (by kernel_rfl)) rfl
        have r24 : A'.tmps[24]? = some (iv y) := hW.val 6 24 (by decide) (hnd 6 (by kernel_rfl)) rfl
        go_simp
        rw [w64k pr (by omega) (by omega)]
        exact hK _ (hW.wi.same (by decide))
      · intro L A' u hW hL0 hnd K' hK
        have r18 : A'.tmps[18]? = some (iv dl) := hW.val 0 18 (by decide) (hnd 0 (by kernel_rfl)) rfl
        have r25 : A'.tmps[25]? = some (iv pr) := hW.val 7 25 (by decide) (hnd 7 (by kernel_rfl)) rfl
        go_simp
        rw [w64k (dl + pr) hs1.1 hs1.2]
        exact hK _ (hW.wi.same (by decide))
      · intro L A' u hW hL0 hnd K' hK
        have r6 : A'.tmps[6]? = some (.pointer (some ⟨w.heap.size, 0, none⟩)) := (hW.out 6 (fun j hj => noOut j 6 hj (by kernel_rfl))).trans rfl
        have r26 : A'.tmps[26]? = some (iv (dl + pr)) := hW.val 8 26 (by decide) (hnd 8 (by kernel_rfl)) rfl
        have hf := (hW.wi.old hL0).frozen 0
        have hcz := (hW.wi.old hL0).cell 0
        simp only [List.getElem?_toArray, List.getElem?_cons_zero] at hcz
        go_simp
        exact hK _ (hW.wi.stored hL0)
    case doneR =>
      intro L u hWI hall
      have hN := hWI.new (hall 9 (by decide))
      have hOz := hWI.only
      clear hWI hall noOut
      simp only [putV, List.foldl_cons, List.foldl_nil]
      refine ⟨keeps_of hOz (fun k hk _ _ => by cases hk; exact ⟨_, _, Hbz.out⟩), fun k h1 h2 => hOz.block k (by omega) (fun e => h2 e), ?_, HO.out.then hOz (fun i e => .inr (by rw [e]; exact Nat.le_refl _)), Nat.le_trans hbig hOz.size⟩
      rw [Hlk.out, Hsn.out, Hq.out]
      exact hN
  case done =>
    rintro D ys2 W hD hys I hK
    rw [hys] at I
    obtain ⟨bz, hO, hbig⟩ := I
    have eR : dotL cs xs at_ (List.range ys.length) = dot cs xs at_ := by unfold dot; rw [Hyl.out, ← Hco.out]
    rw [eR] at bz
    have hdb := dot_bound cs xs at_ hcb hxb (by have := Hhk.out; have := Hco.out; omega) (by have := Hco.out; omega)
    have hfb := fdiv_bound s hdb
    have b0 := HT.out.b0.only hO (fun e => e)
    have q1 := b0.cell 1
    have qz := bz.cell 0
    simp only [List.getElem?_toArray, List.getElem?_cons_zero, List.getElem?_cons_succ] at q1 qz
    have HO := Lib.hid hO
    have HK := Lib.hid hK
    have HE : Hid (dot cs xs at_ / 2 ^ s = tld s cs xs at_) := Lib.hid rfl
    generalize dot cs xs at_ = dt at *
    have hs64 : ¬ (s : Int) < 0 := by omega
    clear bz b0 hO hK eR hys hcb hxb
    gi_wp2
    refine ⟨by simp, .inl ⟨_, _, rfl, run_takeDeferred HK.out, ?_⟩⟩
    refine ⟨iv (dt / 2 ^ s), ?_, by rw [HE.out], only_put HO.out (D := D) (by omega) (.deferred none)⟩
    simp [results, Tryz.f131, go_sem]
  case stop =>
    intro D cd pre W hD _ h
    exact h.elim
set_option maxRecDepth 100000 in
set_option maxHeartbeats 4000000 in
theorem tell_none {w : World} {B : Nat} {P : Int} {s o n k c cc at_ : Nat} {Ac A : Option Addr} {cs xs : List Int} (hT : Tl w B P (s : Int) (.slice Ac o cc) (.slice A n c) o)
    (hcs : ISrc w (.slice Ac o cc) cs) (hxs : ISrc w (.slice A n c) xs) (hat : at_ ≤ n) (hk : o + k = at_) (hcn : n ≤ c) (hck : c = k) (h32 : o ≤ 32) (hs : s ≤ 15)
    (hcb : ∀ x ∈ cs, -16384 ≤ x ∧ x ≤ 16384) (hxb : ∀ j, j < at_ → isS (xs.getD j 0)) :
    Calls Tryz.prog 131 #[iv at_, .pointer (some ⟨B + 1, 0, none⟩), .pointer (some ⟨B + 2, 0, none⟩), .pointer (some ⟨B, 0, none⟩)] w fun e w' => e = .returned (iv (tld s cs xs at_)) ∧ Only Nix w w' := by
  subst hck
  have hco := hcs.len
  have hxn := hxs.len
  have hsm := hxs.small
  rw [← hxn] at hsm
  have hkn : c ≤ n := by omega
  have hak : at_ - c = o := by omega
  have hki : (at_ : Int) - (o : Int) = (c : Int) := by omega
  have hB2 := hT.b2.lt
  have hB0 := hT.b0.lt
  have hB1 := hT.b1.lt
  have d1 := (hT.b1.alloc (.cells #[iv 0] 3)).cell 0
  have d2 := (hT.b2.alloc (.cells #[iv 0] 3)).cell 0
  simp only [List.getElem?_toArray, List.getElem?_cons_zero] at d1 d2
  have hys : ∃ ys, ISrc w (.slice (A) o (0)) ys ∧ ys.length = o ∧ ys = (xs.drop c).take o := by
    refine ⟨(xs.drop c).take o, ?_, by simp; omega, rfl⟩
    have ho : o = 0 := by omega
    subst ho
    rw [List.take_zero]
    exact ⟨⟨_, _, rfl, Nat.zero_le _, fun j hj => by simp at hj⟩, by simp, by simp⟩
  obtain ⟨ys, hys, hyl, hye⟩ := hys
  have hyk : ∀ j, j < o → ys.getD (o - 1 - j) 0 = xs.getD (at_ - 1 - j) 0 := by
    intro j hj
    rw [hye, List.getD_eq_getElem?_getD, List.getD_eq_getElem?_getD, List.getElem?_take_of_lt (by omega), List.getElem?_drop]
    congr 2
    omega
  have hys2 := hys.nix ((Only.refl Nix w).alloc (.cells #[iv 0] 3))
  have hBa := Lib.hid (backwards_any (w := w.alloc (.cells #[iv 0] 3)) (.slice (A) o (0)) _ _ _ rfl)
  have HT := Lib.hid hT
  have HC := Lib.hid hcs
  have HX := Lib.hid hxs
  have Hco := Lib.hid hco
  have Hxn := Lib.hid hxn
  have Hyl := Lib.hid hyl
  have Hys := Lib.hid hys
  have Hyk := Lib.hid hyk
  have Hhk := Lib.hid hk
  clear hT hcs hxs hye hco hxn hyl hys hyk hys2 hk
  refine (callsIn_wide (n := 4)).1 ?_
  refine callsIn_of_wp_marks Tryz.func131 rfl trivial ?_ rfl
  simp only [Tryz.ntmps131, List.size_toArray, List.length_cons, List.length_nil, Nat.reduceAdd, Nat.reduceSub, Array.replicate_succ, Array.replicate_zero, List.push_toArray, List.append_toArray, List.nil_append, List.cons_append]
  gi_wp2_with fail
  refine ⟨trivial, (callsIn_wide.2 hBa.out).mono ?_⟩
  rintro e w2 ⟨rfl, rfl⟩
  gi_wp2_with fail
  clear d1 d2 hBa
  have hsz2 : ((w.alloc (.cells #[iv 0] 3)).alloc (.cells #[.slice (A) o (0)] 22)).heap.size = w.heap.size + 2 := by simp
  have bz := (Box.new w 3 #[iv 0]).alloc (.cells #[.slice (A) o (0)] 22)
  have bd := Box.new (w.alloc (.cells #[iv 0] 3)) 22 #[.slice (A) o (0)]
  rw [World.size_alloc] at bd
  have o2 := ((Only.refl Nix w).alloc (.cells #[iv 0] 3)).alloc (.cells #[.slice (A) o (0)] 22)
  generalize (w.alloc (.cells #[iv 0] 3)).alloc (.cells #[.slice (A) o (0)] 22) = w2 at *
  have hys2 := Hys.out.nix o2
  have HYS2 := Lib.hid hys2
  have Hbd := Lib.hid bd
  have Hsb := Lib.hid (Hys.out.blk)
  clear hys2 bd
  have hbk : ∀ ad, (A) = some ad → 0 < ys.length → ad.block < w.heap.size + 2 ∧ ad.block ≠ w.heap.size := fun ad e h0 => by
    have := Hsb.out ad o (0) (by rw [e]) (by rw [← Hyl.out]; exact h0)
    omega
  have hstops := backs_stops (N := w.heap.size + 2) (z := w.heap.size) (D := w.heap.size + 1) (c := 0) (A := (A)) (ys := ys) (w := w2) (by omega) (by omega) (by omega) (by rw [Hyl.out]; exact Hbd.out) (by rw [Hyl.out]; exact HYS2.out) hbk
  have HST := Lib.hid hstops
  clear hstops hbk
  refine wpIn_rangeFunc_ownG rfl (by decide) (gf := 139) (lb := #[.pointer (some ⟨w.heap.size + 1, 0, none⟩)]) rfl trivial (enters_of Tryz.func139 (by kernel_rfl) rfl)
    HST.out KeepN.t (KeepN.b (by omega)) (Below.refl _ _) (fun _ => rfl)
    (fun pre W => TeI w cs xs at_ (pre.map Fin.val) W) (fun _ _ _ => False)
    (TeI.own (by omega)) (fun _ _ _ _ _ h _ _ => h)
    ⟨bz, o2, by omega⟩
    (fun x => { tmps := #[iv at_, .pointer (some ⟨B + 1, 0, none⟩), .pointer (some ⟨B + 2, 0, none⟩), .pointer (some ⟨B, 0, none⟩), undef, .int .i64 0, .pointer (some ⟨w.heap.size, 0, none⟩), iv (x.val : Int), iv (ys.getD (ys.length - 1 - x.val) 0), .slice A n c, iv at_, iv o, iv c, iv at_, .slice (A) o (0), .func (.func 139) #[] #[.pointer (some ⟨w.heap.size + 1, 0, none⟩)], iv (x.val : Int), iv (ys.getD (ys.length - 1 - x.val) 0), undef, undef, undef, undef, undef, undef, undef, undef, undef, undef, undef, undef, undef], defers := [] }) ?assign ?body ?done ?stop
  case assign =>
    intro l x W K hK
    unfold backE
    gi_wp2
    exact hK
  case body =>
    rintro lp pre x W ⟨bz, hO, hbig⟩ hpl
    have hxo : x.val < o := by rw [← Hyl.out]; exact x.isLt
    have b0 := HT.out.b0.only hO (fun e => e)
    have q2 := b0.cell 2
    have qz := bz.cell 0
    have fz := bz.frozen 0
    simp only [List.getElem?_toArray, List.getElem?_cons_zero, List.getElem?_cons_succ] at q2 qz
    obtain ⟨adc, rfl, qc⟩ := (HC.out.nix hO).at_ (k := x.val) (by rw [← Hco.out]; exact hxo)
    have eg : cs.getD x.val 0 = cs[x.val]'(by rw [← Hco.out]; exact hxo) := by rw [List.getD_eq_getElem?_getD, List.getElem?_eq_getElem (by rw [← Hco.out]; exact hxo)]; rfl
    rw [← eg] at qc
    have hpc : cs.getD x.val 0 ∈ cs := by rw [eg]; exact List.getElem_mem _
    have hcv := hcb _ hpc
    have ey : ys.getD (ys.length - 1 - x.val) 0 = xs.getD (at_ - 1 - x.val) 0 := by rw [← Hyk.out x.val hxo]; congr 1; have := Hyl.out; omega
    rw [ey]
    have hxv := hxb (at_ - 1 - x.val) (by have := Hhk.out; omega)
    unfold isS at hxv
    have hm := mul_bound hcv (x := xs.getD (at_ - 1 - x.val) 0) (by omega)
    have Hsn := Lib.hid (dotL_snoc cs xs at_ (pre.map Fin.val) x.val)
    have hdb := dotL_bound cs xs at_ hcb hxb (by have := Hhk.out; omega) (pre.map Fin.val)
    rw [List.length_map] at hdb
    have hpl2 : (pre.length : Int) ≤ 32 := by have := Hyl.out; omega
    have Hlk : Hid ((pre ++ [x]).map Fin.val = pre.map Fin.val ++ [x.val]) := Lib.hid (by rw [List.map_append]; rfl)
    generalize xs.getD (at_ - 1 - x.val) 0 = y at *
    generalize cs.getD x.val 0 = cv at *
    generalize dotL cs xs at_ (pre.map Fin.val) = dl at *
    have hxi : (x.val : Int) < (o : Int) := by omega
    obtain ⟨pr, hpr⟩ : ∃ pr, cv * y = pr := ⟨_, rfl⟩
    rw [hpr] at hm
    have hs1 : -9223372036854775808 ≤ dl + pr ∧ dl + pr ≤ 9223372036854775807 := by omega
    have hnB : ¬ Just w.heap.size (⟨B, 2, none⟩ : Addr).block := by show ¬ B = w.heap.size; omega
    have hnC : ¬ Just w.heap.size (adc.add x.val).block := by
      rw [add_block]
      have := HC.out.blk adc o cc rfl (by omega)
      show ¬ adc.block = w.heap.size
      omega
    have Hbz := Lib.hid bz
    have HO := Lib.hid hO
    have Hq := Lib.hid hpr
    clear bz b0 eg hpc ey hpl hdb hO hcb hxb
    refine wpIn_block ?_
    have noOut : ∀ j s, j < 10 → (([some 18, some 19, some 20, some 21, some 22, some 23, some 24, some 25, some 26, none] : List (Option Nat)).all fun d => d != some s) = true → ([some 18, some 19, some 20, some 21, some 22, some 23, some 24, some 25, some 26, none] : List (Option Nat)).getD j none ≠ some s := by
      intro j s hj ha e
      rw [List.getD_eq_getElem?_getD, List.getElem?_eq_getElem (by exact hj), Option.getD_some] at e
      have := List.all_eq_true.1 ha _ (List.getElem_mem (by exact hj))
      rw [e] at this
      simp at this
    refine region_val_in _ _ (by kernel_rfl) (fun k0 => ([some 18, some 19, some 20, some 21, some 22, some 23, some 24, some 25, some 26, none] : List (Option Nat)).getD k0 none) (fun k0 => ([(iv dl), (.pointer (some ⟨B, 2, none⟩)), (.slice (some adc) o cc), (iv (x.val : Int)), (.pointer (some (adc.add x.val))), (iv cv), (iv y), (iv pr), (iv (dl + pr)), (undef)] : List Value).getD k0 undef) (AcW W w.heap.size dl (dl + pr)) 31 10 rfl (by kernel_rfl) (by kernel_rfl) rfl (by kernel_rfl) (by kernel_rfl) (by kernel_rfl) ⟨(Only.refl _ W).drew, fun _ => Hbz.out, fun e => by cases e⟩ ?stepsR [(18, iv dl), (19, .pointer (some ⟨B, 2, none⟩)), (20, .slice (some adc) o cc), (21, iv (x.val : Int)), (22, .pointer (some (adc.add x.val))), (23, iv cv), (24, iv y), (25, iv pr), (26, iv (dl + pr))] rfl ?doneR
    case stepsR =>
      refine ⟨?_, ?_, ?_, ?_, ?_, ?_, ?_, ?_, ?_, ?_, trivial⟩
      · intro L A' u hW hL0 hnd K' hK
        have r6 : A'.tmps[6]? = some (.pointer (some ⟨w.heap.size, 0, none⟩)) := (hW.out 6 (fun j hj => noOut j 6 hj (by kernel_rfl))).trans rfl
        have hns : L 9 = false := notYet hW.closed (j := 9) (by rfl) (k := 0) (by kernel_rfl) hL0
        have hc := (hW.wi.old hns).cell 0
        simp only [List.getElem?_toArray, List.getElem?_cons_zero] at hc
        go_simp
        exact hK _ (hW.wi.same (by decide))
      · intro L A' u hW hL0 hnd K' hK
        have r3 : A'.tmps[3]? = some (.pointer (some ⟨B, 0, none⟩)) := (hW.out 3 (fun j hj => noOut j 3 hj (by kernel_rfl))).trans rfl
        go_simp
        exact hK _ (hW.wi.same (by decide))
      · intro L A' u hW hL0 hnd K' hK
        have r19 : A'.tmps[19]? = some (.pointer (some ⟨B, 2, none⟩)) := hW.val 1 19 (by decide) (hnd 1 (by kernel_rfl)) rfl
        have hc := cell_only hW.wi.only q2 hnB
        go_simp
        exact hK _ (hW.wi.same (by decide))
      · intro L A' u hW hL0 hnd K' hK
        have r7 : A'.tmps[7]? = some (iv (x.val : Int)) := (hW.out 7 (fun j hj => noOut j 7 hj (by kernel_rfl))).trans rfl
        go_simp
        exact hK _ (hW.wi.same (by decide))
      · intro L A' u hW hL0 hnd K' hK
        have r20 : A'.tmps[20]? = some (.slice (some adc) o cc) := hW.val 2 20 (by decide) (hnd 2 (by kernel_rfl)) rfl
        have r21 : A'.tmps[21]? = some (iv (x.val : Int)) := hW.val 3 21 (by decide) (hnd 3 (by kernel_rfl)) rfl
        go_simp
        exact hK _ (hW.wi.same (by decide))
      · intro L A' u hW hL0 hnd K' hK
        have r22 : A'.tmps[22]? = some (.pointer (some (adc.add x.val))) := hW.val 4 22 (by decide) (hnd 4 (by kernel_rfl)) rfl
        have hc := cell_only hW.wi.only qc hnC
        go_simp
        exact hK _ (hW.wi.same (by decide))
      · intro L A' u hW hL0 hnd K' hK
        have r8 : A'.tmps[8]? = some (iv y) := (hW.out 8 (fun j hj => noOut j 8 hj (by kernel_rfl))).trans rfl
        go_simp
        exact hK _ (hW.wi.same (by decide))
      · intro L A' u hW hL0 hnd K' hK
        have r23 : A'.tmps[23]? = some (iv cv) := hW.val 5 23 (by decide) (hnd 5 (by kernel_rfl)) rfl
        have r24 : A'.tmps[24]? = some (iv y) := hW.val 6 24 (by decide) (hnd 6 (by kernel_rfl)) rfl
        go_simp
        rw [w64k pr (by omega) (by omega)]
        exact hK _ (hW.wi.same (by decide))
      · intro L A' u hW hL0 hnd K' hK
        have r18 : A'.tmps[18]? = some (iv dl) := hW.val 0 18 (by decide) (hnd 0 (by kernel_rfl)) rfl
        have r25 : A'.tmps[25]? = some (iv pr) := hW.val 7 25 (by decide) (hnd 7 (by kernel_rfl)) rfl
        go_simp
        rw [w64k (dl + pr) hs1.1 hs1.2]
        exact hK _ (hW.wi.same (by decide))
      · intro L A' u hW hL0 hnd K' hK
        have r6 : A'.tmps[6]? = some (.pointer (some ⟨w.heap.size, 0, none⟩)) := (hW.out 6 (fun j hj => noOut j 6 hj (by kernel_rfl))).trans rfl
        have r26 : A'.tmps[26]? = some (iv (dl + pr)) := hW.val 8 26 (by decide) (hnd 8 (by kernel_rfl)) rfl
        have hf := (hW.wi.old hL0).frozen 0
        have hcz := (hW.wi.old hL0).cell 0
        simp only [List.getElem?_toArray, List.getElem?_cons_zero] at hcz
        go_simp
        exact hK _ (hW.wi.stored hL0)
    case doneR =>
      intro L u hWI hall
      have hN := hWI.new (hall 9 (by decide))
      have hOz := hWI.only
      clear hWI hall noOut
      simp only [putV, List.foldl_cons, List.foldl_nil]
      refine ⟨keeps_of hOz (fun c hk _ _ => by cases hk; exact ⟨_, _, Hbz.out⟩), fun c h1 h2 => hOz.block c (by omega) (fun e => h2 e), ?_, HO.out.then hOz (fun i e => .inr (by rw [e]; exact Nat.le_refl _)), Nat.le_trans hbig hOz.size⟩
      rw [Hlk.out, Hsn.out, Hq.out]
      exact hN
  case done =>
    rintro D ys2 W hD hys I hK
    rw [hys] at I
    obtain ⟨bz, hO, hbig⟩ := I
    have eR : dotL cs xs at_ (List.range ys.length) = dot cs xs at_ := by unfold dot; rw [Hyl.out, ← Hco.out]
    rw [eR] at bz
    have hdb := dot_bound cs xs at_ hcb hxb (by have := Hhk.out; have := Hco.out; omega) (by have := Hco.out; omega)
    have hfb := fdiv_bound s hdb
    have b0 := HT.out.b0.only hO (fun e => e)
    have q1 := b0.cell 1
    have qz := bz.cell 0
    simp only [List.getElem?_toArray, List.getElem?_cons_zero, List.getElem?_cons_succ] at q1 qz
    have HO := Lib.hid hO
    have HK := Lib.hid hK
    have HE : Hid (dot cs xs at_ / 2 ^ s = tld s cs xs at_) := Lib.hid rfl
    generalize dot cs xs at_ = dt at *
    have hs64 : ¬ (s : Int) < 0 := by omega
    clear bz b0 hO hK eR hys hcb hxb
    gi_wp2
    refine ⟨by simp, .inl ⟨_, _, rfl, run_takeDeferred HK.out, ?_⟩⟩
    refine ⟨iv (dt / 2 ^ s), ?_, by rw [HE.out], only_put HO.out (D := D) (by omega) (.deferred none)⟩
    simp [results, Tryz.f131, go_sem]
  case stop =>
    intro D cd pre W hD _ h
    exact h.elim
/-- what a sample is told to be -/
theorem tell_any {w : World} {B : Nat} {P : Int} {s o n c cc at_ : Nat} {Ac A : Option Addr} {cs xs : List Int} (hT : Tl w B P (s : Int) (.slice Ac o cc) (.slice A n c) o)
    (hcs : ISrc w (.slice Ac o cc) cs) (hxs : ISrc w (.slice A n c) xs) (hat : at_ ≤ n) (ho : o ≤ at_) (hcn : n ≤ c) (h32 : o ≤ 32) (hs : s ≤ 15)
    (hcb : ∀ x ∈ cs, -16384 ≤ x ∧ x ≤ 16384) (hxb : ∀ j, j < at_ → isS (xs.getD j 0)) :
    Calls Tryz.prog 131 #[iv at_, .pointer (some ⟨B + 1, 0, none⟩), .pointer (some ⟨B + 2, 0, none⟩), .pointer (some ⟨B, 0, none⟩)] w fun e w' => e = .returned (iv (tld s cs xs at_)) ∧ Only Nix w w' := by
  by_cases hck : c = at_ - o
  · exact tell_none (k := at_ - o) hT hcs hxs hat (by omega) hcn hck h32 hs hcb hxb
  · exact tell_more (k := at_ - o) hT hcs hxs hat (by omega) hcn hck h32 hs hcb hxb
end Go.Proofs.YteklfkpeaadinaaGreatDoor.K
