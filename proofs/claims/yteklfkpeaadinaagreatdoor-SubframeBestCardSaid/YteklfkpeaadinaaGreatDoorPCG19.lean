/-
  A region that draws its order, some of whose values are not known ahead: as region_val, each operation shown once; what is not known is told by the invariant.
-/
import Derived.Test.YteklfkpeaadinaaGreatDoorPCG18
namespace Go.Proofs.YteklfkpeaadinaaGreatDoor.K
open Go.RowKit

/-- one value more -/
def andV (vs : Nat → Value) (i : Nat) (v : Value) (j : Nat) : Value := if j = i then v else vs j
section
variable {P : Program} {ops : Array Oper} {Q : Exit → Act → World → Prop} {a0 : Act} {w : World} {dd : Nat → Option Nat} {kv : Nat → Option Value} {WI : (Nat → Bool) → (Nat → Value) → World → Prop}
/-- what is known on the way -/
structure Way3 (ops : Array Oper) (dd : Nat → Option Nat) (kv : Nat → Option Value) (WI : (Nat → Bool) → (Nat → Value) → World → Prop) (a0 : Act) (L : Nat → Bool) (vs : Nat → Value) (A : Act) (u : World) : Prop where
  wi : WI L vs u
  known : ∀ j v, L j = true → kv j = some v → vs j = v
  defers : A.defers = a0.defers
  size : A.tmps.size = a0.tmps.size
  out : ∀ s, (∀ j, j < ops.size → dd j ≠ some s) → A.tmps[s]? = a0.tmps[s]?
  val : ∀ j s, j < ops.size → L j = true → dd j = some s → A.tmps[s]? = some (vs j)
  closed : ∀ j o k, ops[j]? = some o → L j = true → needs o k = true → L k = true
  fresh : ∀ j s, j < ops.size → L j = false → dd j = some s → A.tmps[s]? = a0.tmps[s]?
/-- one operation, whenever it comes -/
def StepAt3 (P : Program) (ops : Array Oper) (Q : Exit → Act → World → Prop) (dd : Nat → Option Nat) (kv : Nat → Option Value) (WI : (Nat → Bool) → (Nat → Value) → World → Prop) (a0 : Act) (i : Nat) (o : Oper) : Prop :=
  ∀ (L : Nat → Bool) (vs : Nat → Value) (A : Act) (u : World), Way3 ops dd kv WI a0 L vs A u → L i = false → (∀ k, needs o k = true → L k = true) →
    ∀ K : Act → World → Prop, (∀ v u', (∀ v0, kv i = some v0 → v = v0) → WI (andOne L i) (andV vs i v) u' → K (A.put o.dst v) u') → if Region.wanted o (yielded ops A.tmps) = true then Oper.wp P o A u K Q else K (A.put o.dst undef) u
def StepsFrom3 (P : Program) (ops : Array Oper) (Q : Exit → Act → World → Prop) (dd : Nat → Option Nat) (kv : Nat → Option Value) (WI : (Nat → Bool) → (Nat → Value) → World → Prop) (a0 : Act) : Nat → List Oper → Prop
  | _, [] => True
  | i, o :: l => StepAt3 P ops Q dd kv WI a0 i o ∧ StepsFrom3 P ops Q dd kv WI a0 (i + 1) l
theorem steps_at3 (l : List Oper) (k : Nat) (h : StepsFrom3 P ops Q dd kv WI a0 k l) (i : Nat) (o : Oper) (ho : l[i]? = some o) : StepAt3 P ops Q dd kv WI a0 (k + i) o := by
  induction l generalizing k i with
  | nil => simp at ho
  | cons p l ih =>
    cases i with
    | zero => simp at ho; subst ho; exact h.1
    | succ i =>
      have := ih (k + 1) h.2 i (by simpa using ho)
      rwa [show k + 1 + i = k + (i + 1) from by omega] at this
theorem wpAny_gho
    (hd : ∀ i o, ops[i]? = some o → o.dst = dd i) (hinj : ∀ i j s, i < ops.size → j < ops.size → dd i = some s → dd j = some s → i = j) (hsz : ∀ i s, i < ops.size → dd i = some s → s < a0.tmps.size)
    (hlex : ∀ i o, ops[i]? = some o → ∀ e ∈ o.after, Region.binds .any e = true → e.on < i)
    (hsteps : ∀ i o, ops[i]? = some o → StepAt3 P ops Q dd kv WI a0 i o)
    (hdone : ∀ L vs A u, Way3 ops dd kv WI a0 L vs A u → (∀ i, i < ops.size → L i = true) → Q .normal A u) :
    ∀ (fuel : Nat) (listed : Array Bool) (vs : Nat → Value) (A : Act) (u : World), listed.size = ops.size → unl listed.toList ≤ fuel → Way3 ops dd kv WI a0 (listedF listed) vs A u → wpAny P .any ops Q fuel listed A u := by
  have gd : ∀ (listed : Array Bool), listed.size = ops.size → ∀ i, i < ops.size → listed.getD i true = listed.getD i false := fun listed hl i hi => by
    have : i < listed.size := by omega
    simp [Array.getD, this]
  have all_of_ready : ∀ (listed : Array Bool), listed.size = ops.size → Region.ready .any ops listed = [] → ∀ i, i < ops.size → listed.getD i false = true := by
    intro listed hl hr i
    induction i using Nat.strongRecOn with
    | _ i ih =>
      intro hi
      by_cases hc : listed.getD i false = true
      · exact hc
      · exfalso
        have ho : ops[i]? = some ops[i] := Array.getElem?_eq_getElem hi
        have hmem : i ∈ Region.ready .any ops listed := by
          unfold Region.ready
          rw [List.mem_filter]
          refine ⟨List.mem_range.2 hi, ?_⟩
          rw [gd listed hl i hi, ho]
          have h1 : (!listed.getD i false) = true := by simpa using hc
          rw [h1]
          simp only [Option.map_some, Option.getD_some, Bool.true_and]
          rw [Array.all_eq_true']
          intro e he
          by_cases hb : Region.binds .any e = true
          · have hlt := hlex i _ ho e he hb
            rw [ih e.on hlt (by omega)]; simp
          · simp [hb]
        rw [hr] at hmem
        cases hmem
  intro fuel
  induction fuel with
  | zero =>
    intro listed vs A u hl hf hW
    have hall : ∀ i, i < ops.size → listed.getD i false = true := fun i hi => by
      have := unl_zero listed.toList (by omega) i (by simpa [hl] using hi)
      have hi' : i < listed.size := by omega
      simp at this
      simp [Array.getD, hi']
      rw [Array.getElem?_eq_getElem hi'] at this
      simpa using this
    refine ⟨?_, hdone _ vs A u hW hall⟩
    unfold Region.ready
    rw [List.filter_eq_nil_iff]
    intro i hi
    have hi' := List.mem_range.1 hi
    rw [gd listed hl i hi', hall i hi']
    simp
  | succ fuel ihf =>
    intro listed vs A u hl hf hW
    refine ⟨fun hr => hdone _ vs A u hW (fun i hi => all_of_ready listed hl hr i hi), fun i hi => ?_⟩
    unfold Region.ready at hi
    rw [List.mem_filter] at hi
    obtain ⟨hi1, hi2⟩ := hi
    have hi' := List.mem_range.1 hi1
    have ho : ops[i]? = some ops[i] := Array.getElem?_eq_getElem hi'
    rw [ho] at hi2
    simp only [Option.map_some, Option.getD_some, Bool.and_eq_true] at hi2
    obtain ⟨hun, hdeps⟩ := hi2
    rw [gd listed hl i hi'] at hun
    have hun' : listed.getD i false = false := by simpa using hun
    have hneed : ∀ j, needs ops[i] j = true → listedF listed j = true := by
      intro j hj
      unfold needs at hj
      rw [Array.any_eq_true'] at hj
      obtain ⟨e, he, hb⟩ := hj
      rw [Bool.and_eq_true, beq_iff_eq] at hb
      obtain ⟨hb, rfl⟩ := hb
      rw [Array.all_eq_true'] at hdeps
      have h2 := hdeps e he
      rw [hb] at h2
      unfold listedF
      simpa using h2
    have hdi := hd i _ ho
    have hstep := hsteps i _ ho (listedF listed) vs A u hW hun' hneed (wpAny P .any ops Q fuel (listed.setIfInBounds i true)) (fun vnew u' hkn hu' => by
      rw [hdi]
      have hsz' : (A.put (dd i) vnew).tmps.size = A.tmps.size := by cases h : dd i <;> simp [Act.put]
      refine ihf _ (andV vs i vnew) _ _ (by simp [hl]) ?_ ⟨?_, ?_, ?_, ?_, ?_, ?_, ?_, ?_⟩
      · have h3 : listed.toList[i]? = some false := by
          have hi'' : i < listed.size := by omega
          have h4 : listed[i] = false := by simpa [Array.getD, hi''] using hun'
          simp [hi'', h4]
        have := unl_set listed.toList i h3
        rw [Array.toList_setIfInBounds]
        omega
      · rw [listedF_set _ _ (by omega)]; exact hu'
      · intro j v hL hj
        rw [listedF_set _ _ (by omega)] at hL
        by_cases hji : j = i
        · subst hji
          simp only [andV, if_true]
          exact hkn v hj
        · have hL' : listedF listed j = true := by simpa [andOne, hji] using hL
          simp only [andV, if_neg hji]
          exact hW.known j v hL' hj
      · cases h : dd i <;> simpa [Act.put] using hW.defers
      · rw [hsz']; exact hW.size
      · intro s hs
        cases h : dd i with
        | none => simpa [Act.put] using hW.out s hs
        | some d =>
          simp only [Act.put]
          rw [Array.getElem?_setIfInBounds_ne (fun e => hs i hi' (by rw [h, e]))]
          exact hW.out s hs
      · intro j s hj hL hs
        rw [listedF_set _ _ (by omega)] at hL
        by_cases hji : j = i
        · subst hji
          rw [hs]
          have hlt : s < A.tmps.size := by rw [hW.size]; exact hsz j s hj hs
          simp [Act.put, hlt, andV]
        · have hL' : listedF listed j = true := by simpa [andOne, hji] using hL
          have hv := hW.val j s hj hL' hs
          have hva : andV vs i vnew j = vs j := by simp only [andV, if_neg hji]
          rw [hva]
          cases h : dd i with
          | none => simpa [Act.put] using hv
          | some d =>
            simp only [Act.put]
            rw [Array.getElem?_setIfInBounds_ne (fun e => hji (hinj j i s hj hi' hs (by rw [h, e])))]
            exact hv
      · intro j o k hoj hL hk
        rw [listedF_set _ _ (by omega)] at hL ⊢
        by_cases hji : j = i
        · subst hji
          rw [ho] at hoj
          obtain rfl := Option.some.inj hoj
          have := hneed k hk
          unfold andOne
          split <;> simp [this]
        · have hL' : listedF listed j = true := by simpa [andOne, hji] using hL
          have := hW.closed j o k hoj hL' hk
          unfold andOne
          split <;> simp [this]
      · intro j s hj hL hs
        rw [listedF_set _ _ (by omega)] at hL
        by_cases hji : j = i
        · subst hji
          simp [andOne] at hL
        · have hL' : listedF listed j = false := by simpa [andOne, hji] using hL
          have hv := hW.fresh j s hj hL' hs
          cases h : dd i with
          | none => simpa [Act.put] using hv
          | some d =>
            simp only [Act.put]
            rw [Array.getElem?_setIfInBounds_ne (fun e => hji (hinj j i s hj hi' hs (by rw [h, e])))]
            exact hv)
    unfold wpOp
    rw [ho]
    by_cases hwn : Region.wanted ops[i] (yielded ops A.tmps) = true
    · rw [if_pos hwn] at hstep
      simp only [hwn, if_true]
      exact .inl hstep
    · rw [if_neg hwn] at hstep
      simp only [hwn]
      exact hstep
theorem region_gho {id : Nat} (hm : P.follows .mixedOrders = true) (dd : Nat → Option Nat) (kv : Nat → Option Value) (WI : (Nat → Bool) → (Nat → Value) → World → Prop) (N n : Nat) (hn : ops.size = n)
    (hd : ((List.range n).all fun i => (ops[i]?).map (·.dst) == some (dd i)) = true)
    (hinj : ((List.range n).all fun i => (List.range n).all fun j => (dd i).isNone || dd i != dd j || i == j) = true) (hN : a0.tmps.size = N) (hsz : ((List.range n).all fun i => match dd i with | none => true | some s => decide (s < N)) = true)
    (hlex : ((List.range n).all fun i => ((ops[i]?).map fun o => o.after.all fun e => !Region.binds .any e || decide (e.on < i)) == some true) = true)
    (hbegin : WI (fun _ => false) (fun _ => undef) w.drew)
    (hsteps : StepsFrom3 P ops Q dd kv WI a0 0 ops.toList)
    (l : (Nat → Value) → List (Nat × Value)) (hl : ∀ vs, ((List.range n).filterMap fun i => (dd i).map fun s => (s, vs i)) = l vs)
    (hdone : ∀ L vs u, WI L vs u → (∀ j v, j < n → kv j = some v → vs j = v) → (∀ i, i < n → L i = true) → Q .normal ⟨putV a0.tmps (l vs), a0.defers⟩ u) : (Code.region id ops true).wp P Q a0 w := by
  subst hn hN
  refine wp_region_any hm ?_
  have lt_of : ∀ i o, ops[i]? = some o → i < ops.size := fun i o ho => (Array.getElem?_eq_some_iff.1 ho).1
  refine wpAny_gho (dd := dd) (kv := kv) (WI := WI) (a0 := a0) (fun i o ho => ?_) (fun i j s hi hj h1 h2 => ?_) (fun i s hi h => ?_) (fun i o ho e he hb => ?_) (fun i o ho => ?_) (fun L vs A u hW hall => ?_) ops.size _ (fun _ => undef) a0 _ (by simp) (by simp [unl_replicate]) ⟨?_, ?_, rfl, rfl, fun _ _ => rfl, ?_, ?_, fun _ _ _ _ _ => rfl⟩
  · have := List.all_eq_true.1 hd i (List.mem_range.2 (lt_of i o ho))
    simpa [ho] using this
  · have := List.all_eq_true.1 (List.all_eq_true.1 hinj i (List.mem_range.2 hi)) j (List.mem_range.2 hj)
    rw [h1, h2] at this
    simpa using this
  · have := List.all_eq_true.1 hsz i (List.mem_range.2 hi)
    rw [h] at this
    simpa using this
  · have := List.all_eq_true.1 hlex i (List.mem_range.2 (lt_of i o ho))
    rw [ho] at this
    simp only [Option.map_some, beq_iff_eq, Option.some.injEq] at this
    rw [Array.all_eq_true'] at this
    have h2 := this e he
    rw [hb] at h2
    simpa using h2
  · have := steps_at3 ops.toList 0 hsteps i o (by simpa using ho)
    rwa [Nat.zero_add] at this
  · have h := hdone L vs u hW.wi (fun j v hj hk => hW.known j v (hall j hj) hk) hall
    rw [← hl vs] at h
    have e : putV a0.tmps ((List.range ops.size).filterMap fun i => (dd i).map fun s => (s, vs i)) = A.tmps := by
      refine putV_eq _ _ _ (fun p hp => ?_) (fun s hs => ?_) hW.size
      · obtain ⟨i, hi, hp⟩ := List.mem_filterMap.1 hp
        obtain ⟨s, hs, rfl⟩ := Option.map_eq_some_iff.1 hp
        have hi' := List.mem_range.1 hi
        exact hW.val i s hi' (hall i hi') hs
      · refine hW.out s (fun j hj e => hs (s, vs j) (List.mem_filterMap.2 ⟨j, List.mem_range.2 hj, by rw [e]; rfl⟩) rfl)
    rw [e, ← hW.defers] at h
    exact h
  · have : listedF (Array.replicate ops.size false) = fun _ => false := by
      funext j
      unfold listedF
      rw [Array.getD_eq_getD_getElem?, Array.getElem?_replicate]
      split <;> rfl
    rw [this]
    exact hbegin
  · intro j v hL
    unfold listedF at hL
    rw [Array.getD_eq_getD_getElem?, Array.getElem?_replicate] at hL
    split at hL <;> simp at hL
  · intro j s hj hL
    unfold listedF at hL
    rw [Array.getD_eq_getD_getElem?, Array.getElem?_replicate] at hL
    split at hL <;> simp at hL
  · intro j o k ho hL
    unfold listedF at hL
    rw [Array.getD_eq_getD_getElem?, Array.getElem?_replicate] at hL
    split at hL <;> simp at hL
end
end Go.Proofs.YteklfkpeaadinaaGreatDoor.K
namespace Go.Proofs.YteklfkpeaadinaaGreatDoor.K
open Go.RowKit

/-- one number more, at a step of a region that draws its order -/
theorem step_append_one {w : World} {ops : Array Oper} {o : Oper} {a : Act} {K : Act → World → Prop} {Q : Exit → Act → World → Prop} {E : Prop} (hg : o.guard = none) (s x : Operand)
    (hop : o.op = Op.call { callee := Callee.builtin Builtin.append, args := #[s, x], argTypes := #[22, 22] })
    (base : Nat) (v : Value) (n : Nat) (xs : List Value) (hs : a.eval s = v) (hown : w.ownsRow base 3 1 v n xs) (H : Nat) (y : Int) (hx : a.eval x = .slice (some ⟨H, 0, none⟩) 1 1) (hc : w.cell? ⟨H, 0, none⟩ = some (iv y)) (hn : n ≤ 100000000) (hb : base ≤ w.heap.size)
    (hK : ∀ g cap w', w'.ownsRow base 3 1 (.slice (some ⟨g, 0, none⟩) (n + 1) cap) (n + 1) (xs ++ [iv y]) → w.grownBy w' v.ownBlock → (v.ownBlock = some g ∨ g = w.heap.size) → K (a.put o.dst (.slice (some ⟨g, 0, none⟩) (n + 1) cap)) w') :
    if Region.wanted o (yielded ops a.tmps) = true then Oper.wp Tryz.prog o a w K Q else E := by
  obtain ⟨i0, hi, hz0, hz1, hz2⟩ := info_parts Tryz.info_int
  exact step_append_lies w hg s x 22 hop base 3 i0 (.int .i64 0) 1 8 Tryz.underlying22 hi hz0 hz1 hz2 rfl (by decide) v n xs hs hown ⟨H, 0, none⟩ 1 1 [iv y] hx rfl (fun j u hu => by
    obtain rfl : j = 0 := by
      have := (List.getElem?_eq_some_iff.1 hu).1
      simp at this
      omega
    rw [Addr.add_lit, hc]
    simpa using hu) (fun u hu => by simp at hu; subst hu; rfl) (by decide) (by unfold maxLen; omega) (by omega) hb _ rfl (fun g cap w' r1 r2 r3 _ => hK g cap w' r1 r2 r3)
/-- a region that ends in an append: ops na - 1 lays the number, na appends it, na + 1 assigns the row -/
structure RrW (W0 Wr : World) (base na : Nat) (v : Value) (k : Nat) (rows : List Value) (y : Int) (L : Nat → Bool) (vs : Nat → Value) (u : World) : Prop where
  only : L na = false → Only Nix Wr u
  arg : L (na - 1) = true → ∃ H, vs (na - 1) = .slice (some ⟨H, 0, none⟩) 1 1 ∧ (L na = false → u.cell? ⟨H, 0, none⟩ = some (iv y))
  done : L na = true → (∃ g cap, vs na = .slice (some ⟨g, 0, none⟩) (k + 1) cap ∧ (v.ownBlock = some g ∨ Wr.heap.size ≤ g) ∧ u.ownsRow base 3 1 (.slice (some ⟨g, 0, none⟩) (k + 1) cap) (k + 1) (rows ++ [iv y])) ∧ Only Nix W0 u ∧ Only (fun q => v.ownBlock = some q) Wr u
  same : L (na + 1) = true → vs (na + 1) = vs na
section
variable {W0 Wr u u' : World} {base na k i : Nat} {v x : Value} {rows : List Value} {y : Int} {L : Nat → Bool} {vs : Nat → Value}
theorem andOne_ne {L : Nat → Bool} {i j : Nat} (h : j ≠ i) : andOne L i j = L j := if_neg h
theorem andV_ne {vs : Nat → Value} {i j : Nat} {v : Value} (h : j ≠ i) : andV vs i v j = vs j := if_neg h
/-- an operation that makes no more than new blocks -/
theorem RrW.step (h : RrW W0 Wr base na v k rows y L vs u) (ho : Only Nix u u') (hi : i + 1 < na) : RrW W0 Wr base na v k rows y (andOne L i) (andV vs i x) u' := by
  refine ⟨fun e => ?_, fun e => ?_, fun e => ?_, fun e => ?_⟩
  · rw [andOne_ne (by omega)] at e; exact (h.only e).trans ho
  · rw [andOne_ne (by omega)] at e
    obtain ⟨H, h1, h2⟩ := h.arg e
    refine ⟨H, by rw [andV_ne (by omega)]; exact h1, fun e2 => ?_⟩
    rw [andOne_ne (by omega)] at e2
    exact cell_keep ho (h2 e2)
  · rw [andOne_ne (by omega)] at e
    obtain ⟨⟨g, cap, h1, h2, h3⟩, h4, h5⟩ := h.done e
    exact ⟨⟨g, cap, by rw [andV_ne (by omega)]; exact h1, h2, owns_only h3 ho (fun _ _ e => e)⟩, h4.trans ho, h5.trans ho.nix⟩
  · rw [andOne_ne (by omega)] at e
    rw [andV_ne (by omega), andV_ne (by omega)]
    exact h.same e
theorem RrW.lay (h : RrW W0 Wr base na v k rows y L vs u) (hL : L na = false) (hna : 0 < na) (hi : i = na - 1) (hx : x = .slice (some ⟨u.heap.size, 0, none⟩) 1 1) : RrW W0 Wr base na v k rows y (andOne L i) (andV vs i x) (u.alloc (.cells #[iv y] 3)) := by
  subst hi hx
  refine ⟨fun e => (h.only hL).alloc _, fun _ => ⟨u.heap.size, by simp [andV], fun _ => (Box.new u 3 #[iv y]).cell 0⟩, fun e => ?_, fun e => ?_⟩
  · rw [andOne_ne (by omega)] at e
    rw [hL] at e
    cases e
  · rw [andOne_ne (by omega)] at e
    rw [andV_ne (by omega), andV_ne (by omega)]
    exact h.same e
theorem RrW.app (h : RrW W0 Wr base na v k rows y L vs u) (hL : L na = false) (hS : L (na + 1) = false) (h0 : Only Nix W0 Wr) (hr : Wr.ownsRow base 3 1 v k rows) (hb : W0.heap.size ≤ base) (g cap : Nat)
    (h1 : u'.ownsRow base 3 1 (.slice (some ⟨g, 0, none⟩) (k + 1) cap) (k + 1) (rows ++ [iv y])) (h2 : u.grownBy u' v.ownBlock) (h3 : v.ownBlock = some g ∨ g = u.heap.size) (hna : 0 < na) (hi : i = na) (hx : x = .slice (some ⟨g, 0, none⟩) (k + 1) cap) : RrW W0 Wr base na v k rows y (andOne L i) (andV vs i x) u' := by
  subst hi hx
  have ho := h.only hL
  refine ⟨fun e => ?_, fun e => ?_, fun _ => ⟨⟨g, cap, by simp [andV], ?_, h1⟩, (h0.trans ho).grown h2 (fun q e => .inr (Nat.le_trans hb (hr.lt q e).1)), (ho.nix (F := fun q => v.ownBlock = some q)).grown h2 (fun q e => .inl e)⟩, fun e => ?_⟩
  · unfold andOne at e; rw [if_pos rfl] at e; cases e
  · by_cases hz : i - 1 = i
    · omega
    · rw [andOne_ne hz] at e
      obtain ⟨H, h5, h6⟩ := h.arg e
      refine ⟨H, by rw [andV_ne hz]; exact h5, fun e2 => ?_⟩
      unfold andOne at e2; rw [if_pos rfl] at e2; cases e2
  · rcases h3 with h3 | h3
    · exact .inl h3
    · exact .inr (by have := ho.size; omega)
  · rw [andOne_ne (by omega)] at e
    rw [hS] at e
    cases e
theorem RrW.put (h : RrW W0 Wr base na v k rows y L vs u) (hi : i = na + 1) (hx : x = vs na) (_ : L na = true) : RrW W0 Wr base na v k rows y (andOne L i) (andV vs i x) u := by
  subst hi hx
  refine ⟨fun e => ?_, fun e => ?_, fun e => ?_, fun _ => by simp [andV]⟩
  · rw [andOne_ne (by omega)] at e; exact h.only e
  · rw [andOne_ne (by omega)] at e
    obtain ⟨H, h1, h2⟩ := h.arg e
    refine ⟨H, by rw [andV_ne (by omega)]; exact h1, fun e2 => ?_⟩
    rw [andOne_ne (by omega)] at e2
    exact h2 e2
  · rw [andOne_ne (by omega)] at e
    obtain ⟨⟨g, cap, h1, h2⟩, h4⟩ := h.done e
    exact ⟨⟨g, cap, by rw [andV_ne (by omega)]; exact h1, h2⟩, h4⟩
end
theorem dot_congr (cs xs ys : List Int) (at_ : Nat) (hc : cs.length ≤ at_) (h : ∀ i, i < at_ → xs.getD i 0 = ys.getD i 0) : dot cs xs at_ = dot cs ys at_ := by
  unfold dot dotL
  refine congrArg List.sum (List.map_congr_left (fun k hk => ?_))
  have hk' := List.mem_range.1 hk
  rw [h (at_ - 1 - k) (by omega)]
theorem tld_congr (s : Nat) (cs xs ys : List Int) (at_ : Nat) (hc : cs.length ≤ at_) (h : ∀ i, i < at_ → xs.getD i 0 = ys.getD i 0) : tld s cs xs at_ = tld s cs ys at_ := by
  unfold tld
  rw [dot_congr cs xs ys at_ hc h]
theorem take_getD (xs : List Int) (j i : Nat) (h : i < j) : (xs.take j).getD i 0 = xs.getD i 0 := by
  rw [List.getD_eq_getElem?_getD, List.getD_eq_getElem?_getD, List.getElem?_take_of_lt h]
theorem _root_.Go.Proofs.YteklfkpeaadinaaGreatDoor.ISrc.take {w : World} {A : Option Addr} {n c : Nat} {xs : List Int} (h : ISrc w (.slice A n c) xs) (j : Nat) (hj : j ≤ n) : ISrc w (.slice A j c) (xs.take j) := by
  have hl := h.len
  have hc := h.cap
  have hlen : (xs.take j).length = j := by rw [List.length_take]; omega
  refine ⟨⟨A, c, by rw [hlen], by omega, fun i hi => ?_⟩, by have := h.small; omega, fun x hx => h.fits x (List.mem_of_mem_take hx)⟩
  rw [hlen] at hi
  obtain ⟨ad, e, hx⟩ := h.at_ (k := i) (by omega)
  exact ⟨ad, e, by rw [hx]; simp⟩
def RrP (w : World) (nc s : Nat) (cs xs : List Int) (s7 s8 : Value) (wr : World) : Prop :=
  ∃ (j : Nat) (v : Value), j ≤ xs.length ∧ s8 = iv j ∧ s7 = v ∧ (∃ A c, v = .slice A (j - nc) c) ∧ (∀ x ∈ xs.take j, isS x) ∧
    wr.ownsRow w.heap.size 3 1 v (j - nc) ((resT s cs xs (j - nc)).map iv) ∧ Only Nix w wr
set_option maxRecDepth 100000 in
set_option maxHeartbeats 4000000 in
theorem residualRef_any {w : World} (P S : Int) (Ac : Option Addr) (nc cc : Nat) (cs : List Int) (A : Option Addr) (n c : Nat) (xs : List Int) (hcs : ISrc w (.slice Ac nc cc) cs) (hxs : ISrc w (.slice A n c) xs) (hn : n ≤ 1000) :
    Calls Tryz.prog 28 #[linV P S (.slice Ac nc cc), .slice A n c] w fun e w' => ResR w P S cs xs e w' := by
  have hcl := hcs.len
  have hxl := hxs.len
  have hsc := hcs.small
  have hcap := hxs.cap
  rw [← hcl] at hsc
  rw [← hxl] at hcap
  have a0 := (Only.refl Nix w).alloc (.cells #[iv P, iv S, .slice Ac nc cc] 53)
  have B0 := Box.new w 53 #[iv P, iv S, .slice Ac nc cc]
  obtain ⟨Wa, hWa⟩ : ∃ Wa, w.alloc (.cells #[iv P, iv S, .slice Ac nc cc] 53) = Wa := ⟨_, rfl⟩
  rw [hWa] at a0 B0
  have HCk := Lib.hid (checkRef_any P S Ac nc cc cs (hcs.nix a0))
  have d0 := B0.cell 0
  have d1 := B0.cell 1
  have d2 := B0.cell 2
  simp only [List.getElem?_toArray, List.getElem?_cons_zero, List.getElem?_cons_succ] at d0 d1 d2
  have HA := Lib.hid a0
  have HC := Lib.hid hcs
  have HX := Lib.hid hxs
  have Hcl := Lib.hid hcl
  have Hxl := Lib.hid hxl
  clear hcs hxs a0 B0 hcl hxl
  go_enter Tryz.func28, Tryz.ntmps28
  by_cases hok : okL P S cs
  · obtain ⟨s, hs⟩ : ∃ s : Nat, S = (s : Int) := ⟨S.toNat, by have := hok.1; omega⟩
    subst hs
    have e0 : ckL P (s : Int) cs = 0 := if_pos hok
    rw [e0] at HCk
    go_wp2_with fail
    refine (HCk.out).mono ?_
    rintro e w1 ⟨rfl, o1⟩
    have c0 := cell_keep o1 d0
    have c1 := cell_keep o1 d1
    have c2 := cell_keep o1 d2
    have HO1 := Lib.hid (HA.out.trans o1)
    clear o1 d0 d1 d2 HCk e0
    have HOK := Lib.hid hok
    clear hok
    by_cases hlt : n < nc
    · have hE : resE P (s : Int) cs xs = 1 := by unfold resE; rw [if_pos HOK.out, if_pos (by rw [← Hxl.out, ← Hcl.out]; exact hlt)]
      have HE := Lib.hid hE
      have hlti : (n : Int) < (nc : Int) := by omega
      clear hE
      go_wp2
      go_ret2
      exact ResR.bad HE.out (by decide) HO1.out
    · have hlti : ¬ (n : Int) < (nc : Int) := by omega
      have hs15 : s ≤ 15 := by have := HOK.out.1; omega
      have h32 : nc ≤ 32 := by have := HOK.out.1; have := Hcl.out; omega
      go_wp2
      go_loopw [7, 8] (fun s7 s8 wr => RrP w1 nc s cs xs s7 s8 wr) (fun _ s8 _ => n - (intOf s8).toNat)
      case atStart =>
        refine ⟨0, _, Nat.zero_le _, rfl, rfl, ⟨none, 0, by rw [Nat.zero_sub]⟩, by simp, ?_, Only.refl _ _⟩
        rw [Nat.zero_sub]
        exact World.ownsRow_nil _ _ _ _
      case round =>
        obtain ⟨j, v, hj, rfl, rfl, ⟨A5, c5, rfl⟩, hal, hown, hOw⟩ := hrel
        rw [← Hxl.out] at hj
        have HAl := Lib.hid hal
        have HW := Lib.hid hOw
        have HW2 := Lib.hid (HO1.out.trans hOw)
        have HOw := Lib.hid hown
        have q0 := cell_keep hOw c0
        have q1 := cell_keep hOw c1
        have q2 := cell_keep hOw c2
        clear hal hown hOw
        by_cases hlt2 : j < n
        · have hltx : j < xs.length := by rw [← Hxl.out]; exact hlt2
          obtain ⟨ad, rfl, hx⟩ := (HX.out.nix HW2.out).at_ hltx
          have hft := HX.out.fits _ (List.getElem_mem hltx)
          have HM := Lib.hid (List.getElem_mem hltx)
          have HE := Lib.hid (List.take_succ_eq_append_getElem hltx)
          have HG := Lib.hid (getD_of hltx)
          have hlt2i : (j : Int) < (n : Int) := by omega
          have HI := Lib.hid (may_any wr xs[j])
          generalize xs[j] = x at *
          clear hltx
          by_cases hS : isS x
          · rw [decide_eq_true hS] at HI
            have HS := Lib.hid hS
            have HAl2 : Hid (∀ y ∈ xs.take (j + 1), isS y) := Lib.hid (fun y hy => by
              rw [HE.out] at hy
              rcases List.mem_append.1 hy with hy | hy
              · exact HAl.out y hy
              · simp at hy; subst hy; exact HS.out)
            clear hS
            by_cases hjo : j < nc
            · have hjoi : (j : Int) < (nc : Int) := by omega
              go_wp2_with fail
              refine (HI.out).mono ?_
              rintro e w9 ⟨rfl, rfl⟩
              go_wp2
              go_roundw
              case rel =>
                have h0 : j + 1 - nc = j - nc := by omega
                exact ⟨j + 1, _, by rw [← Hxl.out]; omega, by go_num, rfl, ⟨A5, c5, by rw [h0]⟩, HAl2.out, by rw [h0]; exact HOw.out, HW.out⟩
              case measure => simp [intOf]; omega
            · have hjoi : ¬ (j : Int) < (nc : Int) := by omega
              have HTo : Hid (∀ u, Only Nix wr u → Calls Tryz.prog 61 #[linV P (s : Int) (.slice Ac nc cc), .slice (some ad) j c] u fun e w' => e = .returned (iv (tld s cs xs j)) ∧ Only Nix u w') := Lib.hid (fun u hu => by
                have h := told_walk (w := u) P s Ac nc cc cs (some ad) j c (xs.take j) (HC.out.nix (HW2.out.trans hu)) ((HX.out.nix (HW2.out.trans hu)).take j (by omega)) (by omega) h32 hs15 (okL_coef HOK.out) (fun i hi => by rw [take_getD xs j i hi]; exact allS_getD HAl.out i hi)
                rw [tld_congr s cs (xs.take j) xs j (by rw [← Hcl.out]; omega) (fun i hi => take_getD xs j i hi)] at h
                exact h)
              have htb := tld_bound s cs xs j (okL_coef HOK.out) (allS_getD HAl.out) (by rw [← Hcl.out]; omega) (by rw [← Hcl.out]; exact h32)
              have hSb := HS.out
              unfold isS at hSb
              have HTS : Hid (resT s cs xs (j - nc + 1) = resT s cs xs (j - nc) ++ [x - tld s cs xs j]) := Lib.hid (by
                rw [resT_snoc, ← Hcl.out, show nc + (j - nc) = j by omega, HG.out])
              generalize tld s cs xs j = tl at *
              have h0 : j - nc ≤ 1000 := by omega
              have Hlo : Hid (j + 1 - nc = j - nc + 1) := Lib.hid (by omega)
              go_wp2_with fail
              refine (HI.out).mono ?_
              rintro e w9 ⟨rfl, rfl⟩
              clear HI
              go_wp2
              have noOut : ∀ j s, j < 14 → (([some 37, some 38, some 39, some 40, some 41, some 42, some 43, some 44, some 45, some 46, some 47, some 48, some 49, some 7] : List (Option Nat)).all fun d => d != some s) = true → ([some 37, some 38, some 39, some 40, some 41, some 42, some 43, some 44, some 45, some 46, some 47, some 48, some 49, some 7] : List (Option Nat)).getD j none ≠ some s := by
                intro j s hj ha e
                rw [List.getD_eq_getElem?_getD, List.getElem?_eq_getElem (by exact hj), Option.getD_some] at e
                have := List.all_eq_true.1 ha _ (List.getElem_mem (by exact hj))
                rw [e] at this
                simp at this
              refine region_gho (by kernel_rfl) (fun k0 => ([some 37, some 38, some 39, some 40, some 41, some 42, some 43, some 44, some 45, some 46, some 47, some 48, some 49, some 7] : List (Option Nat)).getD k0 none) (fun k0 => ([some (.slice A5 (j - nc) c5), some (.slice (some ad) n c), some (iv j), some (.pointer (some (ad.add j))), some (iv x), some (linV P (s : Int) (.slice Ac nc cc)), some (.slice (some ad) n c), some (iv j), some (.slice (some ad) j c), some (iv tl), some (iv (x - tl)), none, none, none] : List (Option Value)).getD k0 none) (RrW w1 wr w1.heap.size 12 (.slice A5 (j - nc) c5) (j - nc) ((resT s cs xs (j - nc)).map iv) (x - tl)) 51 14 rfl (by kernel_rfl) (by kernel_rfl) rfl (by kernel_rfl) (by kernel_rfl) ⟨fun _ => (Only.refl Nix wr).drew, (fun e => by cases e), (fun e => by cases e), (fun e => by cases e)⟩ ?stepsR (fun vs => [(37, vs 0), (38, vs 1), (39, vs 2), (40, vs 3), (41, vs 4), (42, vs 5), (43, vs 6), (44, vs 7), (45, vs 8), (46, vs 9), (47, vs 10), (48, vs 11), (49, vs 12), (7, vs 13)]) (fun vs => rfl) ?doneR
              case stepsR =>
                refine ⟨?_, ?_, ?_, ?_, ?_, ?_, ?_, ?_, ?_, ?_, ?_, ?_, ?_, ?_, trivial⟩
                · intro L vs A' u hW hL0 hnd K' hK
                  have hns : L 13 = false := notYet hW.closed (j := 13) (by rfl) (k := 0) (by kernel_rfl) hL0
                  have r7 : A'.tmps[7]? = some (.slice A5 (j - nc) c5) := (hW.fresh 13 7 (by decide) hns rfl).trans rfl
                  go_simp
                  exact hK _ _ (fun v0 e => by cases e; rfl) (hW.wi.step (Only.refl _ _) (by decide))
                · intro L vs A' u hW hL0 hnd K' hK
                  have r1 : A'.tmps[1]? = some (.slice (some ad) n c) := (hW.out 1 (fun j hj => noOut j 1 hj (by kernel_rfl))).trans rfl
                  go_simp
                  exact hK _ _ (fun v0 e => by cases e; rfl) (hW.wi.step (Only.refl _ _) (by decide))
                · intro L vs A' u hW hL0 hnd K' hK
                  have r8 : A'.tmps[8]? = some (iv j) := (hW.out 8 (fun j hj => noOut j 8 hj (by kernel_rfl))).trans rfl
                  go_simp
                  exact hK _ _ (fun v0 e => by cases e; rfl) (hW.wi.step (Only.refl _ _) (by decide))
                · intro L vs A' u hW hL0 hnd K' hK
                  have r38 : A'.tmps[38]? = some (.slice (some ad) n c) := by
                    have h := hW.val 1 38 (by decide) (hnd 1 (by kernel_rfl)) rfl
                    rw [hW.known 1 _ (hnd 1 (by kernel_rfl)) rfl] at h
                    exact h
                  have r39 : A'.tmps[39]? = some (iv j) := by
                    have h := hW.val 2 39 (by decide) (hnd 2 (by kernel_rfl)) rfl
                    rw [hW.known 2 _ (hnd 2 (by kernel_rfl)) rfl] at h
                    exact h
                  go_simp
                  exact hK _ _ (fun v0 e => by cases e; rfl) (hW.wi.step (Only.refl _ _) (by decide))
                · intro L vs A' u hW hL0 hnd K' hK
                  have n10 : L 10 = false := notYet hW.closed (j := 10) (by rfl) (k := 4) (by kernel_rfl) hL0
                  have n11 : L 11 = false := notYet hW.closed (j := 11) (by rfl) (k := 10) (by kernel_rfl) n10
                  have n12 : L 12 = false := notYet hW.closed (j := 12) (by rfl) (k := 11) (by kernel_rfl) n11
                  have r40 : A'.tmps[40]? = some (.pointer (some (ad.add j))) := by
                    have h := hW.val 3 40 (by decide) (hnd 3 (by kernel_rfl)) rfl
                    rw [hW.known 3 _ (hnd 3 (by kernel_rfl)) rfl] at h
                    exact h
                  have hc := cell_keep (hW.wi.only n12) hx
                  go_simp
                  exact hK _ _ (fun v0 e => by cases e; rfl) (hW.wi.step (Only.refl _ _) (by decide))
                · intro L vs A' u hW hL0 hnd K' hK
                  have n9 : L 9 = false := notYet hW.closed (j := 9) (by rfl) (k := 5) (by kernel_rfl) hL0
                  have n10 : L 10 = false := notYet hW.closed (j := 10) (by rfl) (k := 9) (by kernel_rfl) n9
                  have n11 : L 11 = false := notYet hW.closed (j := 11) (by rfl) (k := 10) (by kernel_rfl) n10
                  have n12 : L 12 = false := notYet hW.closed (j := 12) (by rfl) (k := 11) (by kernel_rfl) n11
                  have r2 : A'.tmps[2]? = some (.pointer (some ⟨w.heap.size, 0, none⟩)) := (hW.out 2 (fun j hj => noOut j 2 hj (by kernel_rfl))).trans rfl
                  have hc0 := cell_keep (hW.wi.only n12) q0
                  have hc1 := cell_keep (hW.wi.only n12) q1
                  have hc2 := cell_keep (hW.wi.only n12) q2
                  go_simp
                  exact hK _ _ (fun v0 e => by cases e; rfl) (hW.wi.step (Only.refl _ _) (by decide))
                · intro L vs A' u hW hL0 hnd K' hK
                  have r1 : A'.tmps[1]? = some (.slice (some ad) n c) := (hW.out 1 (fun j hj => noOut j 1 hj (by kernel_rfl))).trans rfl
                  go_simp
                  exact hK _ _ (fun v0 e => by cases e; rfl) (hW.wi.step (Only.refl _ _) (by decide))
                · intro L vs A' u hW hL0 hnd K' hK
                  have r8 : A'.tmps[8]? = some (iv j) := (hW.out 8 (fun j hj => noOut j 8 hj (by kernel_rfl))).trans rfl
                  go_simp
                  exact hK _ _ (fun v0 e => by cases e; rfl) (hW.wi.step (Only.refl _ _) (by decide))
                · intro L vs A' u hW hL0 hnd K' hK
                  have r43 : A'.tmps[43]? = some (.slice (some ad) n c) := by
                    have h := hW.val 6 43 (by decide) (hnd 6 (by kernel_rfl)) rfl
                    rw [hW.known 6 _ (hnd 6 (by kernel_rfl)) rfl] at h
                    exact h
                  have r44 : A'.tmps[44]? = some (iv j) := by
                    have h := hW.val 7 44 (by decide) (hnd 7 (by kernel_rfl)) rfl
                    rw [hW.known 7 _ (hnd 7 (by kernel_rfl)) rfl] at h
                    exact h
                  have hjc : j ≤ c := by omega
                  go_simp
                  exact hK _ _ (fun v0 e => by cases e; rfl) (hW.wi.step (Only.refl _ _) (by decide))
                · intro L vs A' u hW hL0 hnd K' hK
                  have n10 : L 10 = false := notYet hW.closed (j := 10) (by rfl) (k := 9) (by kernel_rfl) hL0
                  have n11 : L 11 = false := notYet hW.closed (j := 11) (by rfl) (k := 10) (by kernel_rfl) n10
                  have n12 : L 12 = false := notYet hW.closed (j := 12) (by rfl) (k := 11) (by kernel_rfl) n11
                  have r42 : A'.tmps[42]? = some (linV P (s : Int) (.slice Ac nc cc)) := by
                    have h := hW.val 5 42 (by decide) (hnd 5 (by kernel_rfl)) rfl
                    rw [hW.known 5 _ (hnd 5 (by kernel_rfl)) rfl] at h
                    exact h
                  have r45 : A'.tmps[45]? = some (.slice (some ad) j c) := by
                    have h := hW.val 8 45 (by decide) (hnd 8 (by kernel_rfl)) rfl
                    rw [hW.known 8 _ (hnd 8 (by kernel_rfl)) rfl] at h
                    exact h
                  have HCL := Lib.hid (HTo.out u (hW.wi.only n12))
                  go_simp
                  refine (HCL.out).mono ?_
                  rintro e' u' ⟨rfl, ho'⟩
                  exact hK _ _ (fun v0 e => by cases e; rfl) (hW.wi.step ho' (by decide))
                · intro L vs A' u hW hL0 hnd K' hK
                  have r41 : A'.tmps[41]? = some (iv x) := by
                    have h := hW.val 4 41 (by decide) (hnd 4 (by kernel_rfl)) rfl
                    rw [hW.known 4 _ (hnd 4 (by kernel_rfl)) rfl] at h
                    exact h
                  have r46 : A'.tmps[46]? = some (iv tl) := by
                    have h := hW.val 9 46 (by decide) (hnd 9 (by kernel_rfl)) rfl
                    rw [hW.known 9 _ (hnd 9 (by kernel_rfl)) rfl] at h
                    exact h
                  go_simp
                  rw [w64k (x - tl) (by omega) (by omega)]
                  exact hK _ _ (fun v0 e => by cases e; rfl) (hW.wi.step (Only.refl _ _) (by decide))
                · intro L vs A' u hW hL0 hnd K' hK
                  have n12 : L 12 = false := notYet hW.closed (j := 12) (by rfl) (k := 11) (by kernel_rfl) hL0
                  have r47 : A'.tmps[47]? = some (iv (x - tl)) := by
                    have h := hW.val 10 47 (by decide) (hnd 10 (by kernel_rfl)) rfl
                    rw [hW.known 10 _ (hnd 10 (by kernel_rfl)) rfl] at h
                    exact h
                  go_simp
                  exact hK _ _ (fun v0 e => by cases e) (hW.wi.lay n12 (by decide) rfl rfl)
                · intro L vs A' u hW hL0 hnd K' hK
                  have n13 : L 13 = false := notYet hW.closed (j := 13) (by rfl) (k := 12) (by kernel_rfl) hL0
                  have r37 : A'.tmps[37]? = some (.slice A5 (j - nc) c5) := by
                    have h := hW.val 0 37 (by decide) (hnd 0 (by kernel_rfl)) rfl
                    rw [hW.known 0 _ (hnd 0 (by kernel_rfl)) rfl] at h
                    exact h
                  have r48 : A'.tmps[48]? = some (vs 11) := hW.val 11 48 (by decide) (hnd 11 (by kernel_rfl)) rfl
                  obtain ⟨H, h5, h6⟩ := hW.wi.arg (hnd 11 (by kernel_rfl))
                  rw [h5] at r48
                  refine step_append_one rfl (.tmp 37) (.tmp 48) rfl w1.heap.size (.slice A5 (j - nc) c5) (j - nc) ((resT s cs xs (j - nc)).map iv) (by simp [Act.eval, r37]) (owns_only HOw.out (hW.wi.only hL0) (fun _ _ e => e)) H (x - tl) (by simp [Act.eval, r48]) (h6 hL0) (by omega) ?_ ?_
                  · exact Nat.le_trans HW.out.size (hW.wi.only hL0).size
                  · intro g cap u' k1 k2 k3
                    exact hK _ _ (fun v0 e => by cases e) (hW.wi.app hL0 n13 HW.out HOw.out (Nat.le_refl _) g cap k1 k2 k3 (by decide) rfl rfl)
                · intro L vs A' u hW hL0 hnd K' hK
                  have r49 : A'.tmps[49]? = some (vs 12) := hW.val 12 49 (by decide) (hnd 12 (by kernel_rfl)) rfl
                  go_simp
                  exact hK _ _ (fun v0 e => by cases e) (hW.wi.put rfl rfl (hnd 12 (by kernel_rfl)))
              case doneR =>
                intro L vs u hWI hkn hall
                obtain ⟨⟨g, cap, e12, hg, hrow⟩, hW1, hWr⟩ := hWI.done (hall 12 (by decide))
                have e13 := hWI.same (hall 13 (by decide))
                rw [e12] at e13
                have HF := Lib.hid (And.intro hrow hW1)
                clear hWI hkn hall noOut HTo hrow hW1 hWr hg
                simp only [putV, List.foldl_cons, List.foldl_nil, e13]
                clear e12 e13
                go_wp2
                go_roundw
                case rel =>
                  exact ⟨j + 1, _, by rw [← Hxl.out]; omega, by go_num, rfl, ⟨_, _, by rw [Hlo.out]⟩, HAl2.out, by rw [Hlo.out, HTS.out, List.map_append]; exact HF.out.1, HF.out.2⟩
                case measure => simp [intOf]; omega
          · rw [decide_eq_false hS] at HI
            have hE : resE P (s : Int) cs xs = 10 := by
              unfold resE
              rw [if_pos HOK.out, if_neg (by rw [← Hxl.out, ← Hcl.out]; exact hlt), if_neg (fun h => hS (h x HM.out))]
            have HEE := Lib.hid hE
            clear hS hE
            go_wp2_with fail
            refine (HI.out).mono ?_
            rintro e w9 ⟨rfl, rfl⟩
            go_wp2
            go_ret2
            exact ResR.bad HEE.out (by decide) HW2.out
        · obtain rfl : j = n := by omega
          have hS : ∀ y ∈ xs, isS y := fun y hy => HAl.out y (by rw [List.take_of_length_le (by rw [← Hxl.out]; exact Nat.le_refl _)]; exact hy)
          have hE : resE P (s : Int) cs xs = 0 := by
            unfold resE
            rw [if_pos HOK.out, if_neg (by rw [← Hxl.out, ← Hcl.out]; exact hlt), if_pos hS]
          have hV : resV P (s : Int) cs xs = resT s cs xs (j - nc) := by
            unfold resV
            rw [if_pos hE, Int.toNat_natCast, ← Hxl.out, ← Hcl.out]
          have HFin : Hid (ResR w P (s : Int) cs xs (.returned (.tuple #[.slice A5 (j - nc) c5, iv 0])) wr) := Lib.hid (by
            refine ⟨⟨A5, c5, by rw [hV, resT_len, hE], ?_⟩, HW2.out⟩
            have hb := resV_bound P (s : Int) cs xs
            rw [hV] at hb ⊢
            rw [resT_len]
            rcases Nat.eq_zero_or_pos (j - nc) with h0 | h0
            · rw [h0]
              exact ⟨⟨A5, c5, rfl, Nat.zero_le _, fun i hi => by simp [resT] at hi⟩, by simp [resT], by simp [resT]⟩
            · obtain ⟨g, c6, e6, _⟩ := row_form HOw.out h0
              injection e6 with eA _ ec
              subst eA ec
              exact isrc_row HOw.out rfl (fun y hy => by have := hb y hy; omega) (by omega))
          clear hS hE hV
          go_wp2
          go_ret2
          exact HFin.out
  · have e0 : ckL P S cs = 10 := if_neg hok
    have hE : resE P S cs xs = 10 := if_neg hok
    rw [e0] at HCk
    have HE := Lib.hid hE
    clear hok e0 hE
    go_wp2_with fail
    refine (HCk.out).mono ?_
    rintro e w1 ⟨rfl, o1⟩
    have HO1 := Lib.hid (HA.out.trans o1)
    clear o1
    go_wp2
    go_ret2
    exact ResR.bad HE.out (by decide) HO1.out
end Go.Proofs.YteklfkpeaadinaaGreatDoor.K
