/-
  A region that draws its order, by what each operation's value is good for: whatever the order, each operation is shown once.
-/
import Derived.Test.YtmnnjbamphoghaaDoorMem
import Derived.RegionTactic
namespace Go.Proofs.YtmnnjbamphoghaaDoor
open Go.RowKit

/-- how many are not listed yet -/
def unl : List Bool → Nat
  | [] => 0
  | b :: l => (if b = true then 0 else 1) + unl l
theorem unl_set (l : List Bool) (i : Nat) (h : l[i]? = some false) : unl (l.set i true) + 1 = unl l := by
  induction l generalizing i with
  | nil => simp at h
  | cons b l ih =>
    cases i with
    | zero => simp at h; subst h; simp [unl]; omega
    | succ i =>
      have := ih i (by simpa using h)
      simp only [List.set_cons_succ, unl]
      omega
theorem unl_zero (l : List Bool) (h : unl l = 0) (i : Nat) (hi : i < l.length) : l[i]? = some true := by
  induction l generalizing i with
  | nil => simp at hi
  | cons b l ih =>
    simp only [unl] at h
    cases b with
    | false => simp at h
    | true =>
      cases i with
      | zero => rfl
      | succ i => simpa using ih (by simpa using h) i (by simpa using hi)
theorem unl_replicate (n : Nat) : unl (List.replicate n false) = n := by
  induction n with
  | zero => rfl
  | succ n ih => simp only [List.replicate_succ, unl, ih]; simp; omega

/-- an edge of o's that binds -/
def needs (o : Oper) (j : Nat) : Bool := o.after.any fun e => Region.binds .any e && e.on == j

section
variable {P : Program} {ops : Array Oper} {Q : Exit → Act → World → Prop} {a0 : Act} {w : World}
/-- what is known on the way -/
structure Way (ops : Array Oper) (d : Nat → Nat) (a0 : Act) (w : World) (A : Act) (u : World) : Prop where
  only : Only Nix w u
  defers : A.defers = a0.defers
  size : A.tmps.size = a0.tmps.size
  out : ∀ s, (∀ j, j < ops.size → d j ≠ s) → A.tmps[s]? = a0.tmps[s]?
/-- one operation, whenever it comes -/
def StepAt (P : Program) (ops : Array Oper) (Q : Exit → Act → World → Prop) (d : Nat → Nat) (a0 : Act) (w : World) (Cl : Nat → Value → World → Prop) (i : Nat) (o : Oper) : Prop :=
  ∀ (A : Act) (u : World), Way ops d a0 w A u → (∀ j, needs o j = true → A.tmps[d j]? = some (A.tmps.getD (d j) undef) ∧ Cl j (A.tmps.getD (d j) undef) u) →
    ∀ K : Act → World → Prop, (∀ x u', Only Nix u u' → Cl i x u' → K (A.put o.dst x) u') → if Region.wanted o (yielded ops A.tmps) = true then Oper.wp P o A u K Q else K (A.put o.dst undef) u
/-- all of them -/
def StepsFrom (P : Program) (ops : Array Oper) (Q : Exit → Act → World → Prop) (d : Nat → Nat) (a0 : Act) (w : World) (Cl : Nat → Value → World → Prop) : Nat → List Oper → Prop
  | _, [] => True
  | i, o :: l => StepAt P ops Q d a0 w Cl i o ∧ StepsFrom P ops Q d a0 w Cl (i + 1) l
theorem steps_at {d : Nat → Nat} {Cl : Nat → Value → World → Prop} (l : List Oper) (k : Nat) (h : StepsFrom P ops Q d a0 w Cl k l) (i : Nat) (o : Oper) (ho : l[i]? = some o) : StepAt P ops Q d a0 w Cl (k + i) o := by
  induction l generalizing k i with
  | nil => simp at ho
  | cons p l ih =>
    cases i with
    | zero => simp at ho; subst ho; exact h.1
    | succ i =>
      have := ih (k + 1) h.2 i (by simpa using ho)
      rwa [show k + 1 + i = k + (i + 1) from by omega] at this

theorem wpAny_rel (d : Nat → Nat) (Cl : Nat → Value → World → Prop) (hst : ∀ i x u u', Cl i x u → Only Nix u u' → Cl i x u')
    (hd : ∀ i o, ops[i]? = some o → o.dst = some (d i)) (hinj : ∀ i j, i < ops.size → j < ops.size → d i = d j → i = j) (hsz : ∀ i, i < ops.size → d i < a0.tmps.size)
    (hlex : ∀ i o, ops[i]? = some o → ∀ e ∈ o.after, Region.binds .any e = true → e.on < i)
    (hsteps : ∀ i o, ops[i]? = some o → StepAt P ops Q d a0 w Cl i o)
    (hdone : ∀ A u, Way ops d a0 w A u → (∀ i, i < ops.size → A.tmps[d i]? = some (A.tmps.getD (d i) undef) ∧ Cl i (A.tmps.getD (d i) undef) u) → Q .normal A u) :
    ∀ (fuel : Nat) (listed : Array Bool) (A : Act) (u : World), listed.size = ops.size → unl listed.toList ≤ fuel → Way ops d a0 w A u → (∀ i, i < ops.size → listed.getD i false = true → Cl i (A.tmps.getD (d i) undef) u) → wpAny P .any ops Q fuel listed A u := by
  have rd : ∀ (A : Act) (u : World), Way ops d a0 w A u → ∀ i, i < ops.size → A.tmps[d i]? = some (A.tmps.getD (d i) undef) := fun A u hW i hi => by
    have : d i < A.tmps.size := by rw [hW.size]; exact hsz i hi
    simp [Array.getD, this]
  have gd : ∀ (listed : Array Bool), listed.size = ops.size → ∀ i, i < ops.size → listed.getD i true = listed.getD i false := fun listed hl i hi => by
    have : i < listed.size := by omega
    simp [Array.getD, this]
  have all_of_ready : ∀ (listed : Array Bool), listed.size = ops.size → Region.ready .any ops listed = [] → ∀ i, i < ops.size → listed.getD i false = true := by
    intro listed hl hr i
    induction i using Nat.strongRecOn with
    | _ i ih =>
      intro hi
      by_cases hc : listed.getD i false = true
      · exact hc
      · exfalso
        have ho : ops[i]? = some ops[i] := Array.getElem?_eq_getElem hi
        have hmem : i ∈ Region.ready .any ops listed := by
          unfold Region.ready
          rw [List.mem_filter]
          refine ⟨List.mem_range.2 hi, ?_⟩
          rw [gd listed hl i hi, ho]
          have h1 : (!listed.getD i false) = true := by simpa using hc
          rw [h1]
          simp only [Option.map_some, Option.getD_some, Bool.true_and]
          rw [Array.all_eq_true']
          intro e he
          by_cases hb : Region.binds .any e = true
          · have hlt := hlex i _ ho e he hb
            rw [ih e.on hlt (by omega)]; simp
          · simp [hb]
        rw [hr] at hmem
        cases hmem
  intro fuel
  induction fuel with
  | zero =>
    intro listed A u hl hf hW hC
    have hall : ∀ i, i < ops.size → listed.getD i false = true := fun i hi => by
      have := unl_zero listed.toList (by omega) i (by simpa [hl] using hi)
      have hi' : i < listed.size := by omega
      simp at this
      simp [Array.getD, hi']
      rw [Array.getElem?_eq_getElem hi'] at this
      simpa using this
    refine ⟨?_, hdone A u hW (fun i hi => ⟨rd A u hW i hi, hC i hi (hall i hi)⟩)⟩
    unfold Region.ready
    rw [List.filter_eq_nil_iff]
    intro i hi
    have hi' := List.mem_range.1 hi
    rw [gd listed hl i hi', hall i hi']
    simp
  | succ fuel ihf =>
    intro listed A u hl hf hW hC
    refine ⟨fun hr => hdone A u hW (fun i hi => ⟨rd A u hW i hi, hC i hi (all_of_ready listed hl hr i hi)⟩), fun i hi => ?_⟩
    unfold Region.ready at hi
    rw [List.mem_filter] at hi
    obtain ⟨hi1, hi2⟩ := hi
    have hi' := List.mem_range.1 hi1
    have ho : ops[i]? = some ops[i] := Array.getElem?_eq_getElem hi'
    rw [ho] at hi2
    simp only [Option.map_some, Option.getD_some, Bool.and_eq_true] at hi2
    obtain ⟨hun, hdeps⟩ := hi2
    rw [gd listed hl i hi'] at hun
    have hun' : listed.getD i false = false := by simpa using hun
    have hneed : ∀ j, needs ops[i] j = true → A.tmps[d j]? = some (A.tmps.getD (d j) undef) ∧ Cl j (A.tmps.getD (d j) undef) u := by
      intro j hj
      unfold needs at hj
      rw [Array.any_eq_true'] at hj
      obtain ⟨e, he, hb⟩ := hj
      rw [Bool.and_eq_true, beq_iff_eq] at hb
      obtain ⟨hb, rfl⟩ := hb
      have hlt := hlex i _ ho e he hb
      rw [Array.all_eq_true'] at hdeps
      have h2 := hdeps e he
      rw [hb] at h2
      simp only [Bool.not_true, Bool.false_or] at h2
      exact ⟨rd A u hW _ (by omega), hC _ (by omega) h2⟩
    have hdi := hd i _ ho
    have hstep := hsteps i _ ho A u hW hneed (wpAny P .any ops Q fuel (listed.setIfInBounds i true)) (fun x u' hu' hx => by
      have hdl : d i < A.tmps.size := by rw [hW.size]; exact hsz i hi'
      rw [hdi]
      refine ihf _ _ _ (by simp [hl]) ?_ ⟨hW.only.trans hu', hW.defers, by simp [Act.put, hW.size], fun s hs => ?_⟩ (fun j hj hjl => ?_)
      · have h3 : listed.toList[i]? = some false := by
          have hi'' : i < listed.size := by omega
          have h4 : listed[i] = false := by simpa [Array.getD, hi''] using hun'
          simp [hi'', h4]
        have := unl_set listed.toList i h3
        rw [Array.toList_setIfInBounds]
        omega
      · simp only [Act.put]
        rw [Array.getElem?_setIfInBounds_ne (hs i hi')]
        exact hW.out s hs
      · by_cases hji : j = i
        · subst hji
          have : (Act.put A (some (d j)) x).tmps.getD (d j) undef = x := by simp [Act.put, Array.getD, hdl]
          rw [this]
          exact hx
        · have hne : d i ≠ d j := fun e => hji (hinj i j hi' hj e).symm
          have : (Act.put A (some (d i)) x).tmps.getD (d j) undef = A.tmps.getD (d j) undef := by
            simp only [Act.put]
            rw [Array.getD_eq_getD_getElem?, Array.getD_eq_getD_getElem?, Array.getElem?_setIfInBounds_ne hne]
          rw [this]
          refine hst _ _ _ _ (hC j hj ?_) hu'
          have : (listed.setIfInBounds i true).getD j false = listed.getD j false := by
            rw [Array.getD_eq_getD_getElem?, Array.getD_eq_getD_getElem?, Array.getElem?_setIfInBounds_ne (Ne.symm hji)]
          rw [this] at hjl
          exact hjl)
    unfold wpOp
    rw [ho]
    by_cases hwn : Region.wanted ops[i] (yielded ops A.tmps) = true
    · rw [if_pos hwn] at hstep
      simp only [hwn, if_true]
      exact .inl hstep
    · rw [if_neg hwn] at hstep
      simp only [hwn]
      exact hstep

theorem region_rel {id : Nat} (hm : P.follows .mixedOrders = true) (d : Nat → Nat) (Cl : Nat → Value → World → Prop) (hst : ∀ i x u u', Cl i x u → Only Nix u u' → Cl i x u')
    (hd : ((List.range ops.size).all fun i => ((ops[i]?).bind (·.dst)) == some (d i)) = true) (hinj : ∀ i j, i < ops.size → j < ops.size → d i = d j → i = j) (hsz : ∀ i, i < ops.size → d i < a0.tmps.size)
    (hlex : ((List.range ops.size).all fun i => ((ops[i]?).map fun o => o.after.all fun e => !Region.binds .any e || decide (e.on < i)) == some true) = true)
    (hsteps : StepsFrom P ops Q d a0 w Cl 0 ops.toList)
    (hdone : ∀ A u, Way ops d a0 w A u → (∀ i, i < ops.size → A.tmps[d i]? = some (A.tmps.getD (d i) undef) ∧ Cl i (A.tmps.getD (d i) undef) u) → Q .normal A u) : (Code.region id ops true).wp P Q a0 w := by
  refine wp_region_any hm ?_
  have lt_of : ∀ i o, ops[i]? = some o → i < ops.size := fun i o ho => (Array.getElem?_eq_some_iff.1 ho).1
  refine wpAny_rel d Cl hst (fun i o ho => ?_) hinj hsz (fun i o ho e he hb => ?_) (fun i o ho => ?_) hdone ops.size _ a0 _ (by simp) (by simp [unl_replicate]) ⟨(Only.refl Nix w).drew, rfl, rfl, fun _ _ => rfl⟩ (fun i hi hl => ?_)
  · have := List.all_eq_true.1 hd i (List.mem_range.2 (lt_of i o ho))
    simpa [ho] using this
  · have := List.all_eq_true.1 hlex i (List.mem_range.2 (lt_of i o ho))
    rw [ho] at this
    simp only [Option.map_some, beq_iff_eq, Option.some.injEq] at this
    rw [Array.all_eq_true'] at this
    have h2 := this e he
    rw [hb] at h2
    simpa using h2
  · have := steps_at ops.toList 0 hsteps i o (by simpa using ho)
    rwa [Nat.zero_add] at this
  · exfalso
    simp [Array.getD] at hl

/-- values put into slots -/
def putsL (B : Array Value) (ds : List Nat) (f : Nat → Value) : Array Value := ds.foldl (fun B d => B.setIfInBounds d (f d)) B
theorem putsL_size (ds : List Nat) (f : Nat → Value) (B : Array Value) : (putsL B ds f).size = B.size := by
  unfold putsL
  induction ds generalizing B with
  | nil => rfl
  | cons d ds ih => rw [List.foldl_cons, ih, Array.size_setIfInBounds]
theorem putsL_get (ds : List Nat) (f : Nat → Value) (B : Array Value) (s : Nat) : (putsL B ds f)[s]? = if s ∈ ds ∧ s < B.size then some (f s) else B[s]? := by
  unfold putsL
  induction ds generalizing B with
  | nil => simp
  | cons d ds ih =>
    rw [List.foldl_cons, ih, Array.size_setIfInBounds]
    by_cases h1 : s ∈ ds ∧ s < B.size
    · rw [if_pos h1, if_pos ⟨List.mem_cons_of_mem _ h1.1, h1.2⟩]
    · rw [if_neg h1]
      by_cases h2 : s = d
      · subst h2
        by_cases h3 : s < B.size
        · rw [if_pos ⟨List.mem_cons_self .., h3⟩, Array.getElem?_setIfInBounds_self_of_lt h3]
        · rw [if_neg (fun e => h3 e.2), Array.getElem?_eq_none (by simpa using h3), Array.getElem?_eq_none (by omega)]
      · rw [Array.getElem?_setIfInBounds_ne (Ne.symm h2), if_neg]
        rintro ⟨h4, h5⟩
        rcases List.mem_cons.1 h4 with h6 | h6
        · exact h2 h6
        · exact h1 ⟨h6, h5⟩

/-- .. and behind it the frame is known, but for what only its use tells of a value -/
theorem region_by {id : Nat} (hm : P.follows .mixedOrders = true) (d : Nat → Nat) (Cl : Nat → Value → World → Prop) (hst : ∀ i x u u', Cl i x u → Only Nix u u' → Cl i x u')
    (hd : ((List.range ops.size).all fun i => ((ops[i]?).bind (·.dst)) == some (d i)) = true) (hinj : ∀ i j, i < ops.size → j < ops.size → d i = d j → i = j) (hsz : ∀ i, i < ops.size → d i < a0.tmps.size)
    (hlex : ((List.range ops.size).all fun i => ((ops[i]?).map fun o => o.after.all fun e => !Region.binds .any e || decide (e.on < i)) == some true) = true)
    (ds : List Nat) (hds : (List.range ops.size).map d = ds)
    (hsteps : StepsFrom P ops Q d a0 w Cl 0 ops.toList)
    (hdone : ∀ (f : Nat → Value) u, Only Nix w u → (∀ i, i < ops.size → Cl i (f (d i)) u) → Q .normal ⟨putsL a0.tmps ds f, a0.defers⟩ u) : (Code.region id ops true).wp P Q a0 w := by
  refine region_rel hm d Cl hst hd hinj hsz hlex hsteps (fun A u hW hall => ?_)
  have h := hdone (fun s => A.tmps.getD s undef) u hW.only (fun i hi => (hall i hi).2)
  have e : putsL a0.tmps ds (fun s => A.tmps.getD s undef) = A.tmps := by
    apply Array.ext_getElem?
    intro s
    rw [putsL_get]
    by_cases hs : s ∈ ds
    · subst hds
      obtain ⟨i, hi, rfl⟩ := List.mem_map.1 hs
      have hi' := List.mem_range.1 hi
      rw [if_pos ⟨hs, hsz i hi'⟩, (hall i hi').1]
    · rw [if_neg (fun h => hs h.1), hW.out s (fun j hj e => hs (by subst hds; exact List.mem_map.2 ⟨j, List.mem_range.2 hj, e⟩))]
  rw [e, ← hW.defers] at h
  exact h
end
end Go.Proofs.YtmnnjbamphoghaaDoor
