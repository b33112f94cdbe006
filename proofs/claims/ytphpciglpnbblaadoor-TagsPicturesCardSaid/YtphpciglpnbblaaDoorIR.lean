/-
  A region that draws its order, told by predicates of its values: each operation is shown once, whatever the order; what is known of a value stays so while the world grows.
-/
import Derived.Test.YtphpciglpnbblaaDoorIA
import Derived.RegionTactic
import Derived.Deep.RegionHeld3
import Derived.Deep.MidRow
import Derived.Laws.Tables
namespace Go.Proofs.YtphpciglpnbblaaDoor
open Go.RowKit

/-- how many are not listed yet -/
def unl : List Bool → Nat
  | [] => 0
  | b :: l => (if b = true then 0 else 1) + unl l
theorem unl_set (l : List Bool) (i : Nat) (h : l[i]? = some false) : unl (l.set i true) + 1 = unl l := by
  induction l generalizing i with
  | nil => simp at h
  | cons b l ih =>
    cases i with
    | zero => simp at h; subst h; simp [unl]; omega
    | succ i =>
      have := ih i (by simpa using h)
      simp only [List.set_cons_succ, unl]
      omega
theorem unl_zero (l : List Bool) (h : unl l = 0) (i : Nat) (hi : i < l.length) : l[i]? = some true := by
  induction l generalizing i with
  | nil => simp at hi
  | cons b l ih =>
    simp only [unl] at h
    cases b with
    | false => simp at h
    | true =>
      cases i with
      | zero => rfl
      | succ i => simpa using ih (by simpa using h) i (by simpa using hi)
theorem unl_replicate (n : Nat) : unl (List.replicate n false) = n := by
  induction n with
  | zero => rfl
  | succ n ih => simp only [List.replicate_succ, unl, ih]; simp; omega

/-- an edge of o's that binds -/
def needs (o : Oper) (j : Nat) : Bool := o.after.any fun e => Region.binds .any e && e.on == j
/-- which are listed -/
def listedF (l : Array Bool) (j : Nat) : Bool := l.getD j false
/-- a value behind a guard: what it is where it is asked -/
def gv (G : Bool) (V : Value) : Value := bif G then V else undef
theorem gv_true (V : Value) : gv true V = V := rfl
theorem gv_false (V : Value) : gv false V = undef := rfl
theorem gv_yes {x : Option Value} {G : Bool} {V : Value} (h : x = some (gv G V)) (hG : G = true) : x = some V := by subst hG; exact h
theorem gv_no {x : Option Value} {G : Bool} {V : Value} (h : x = some (gv G V)) (hG : G = false) : x = some undef := by subst hG; exact h
/-- one more -/
def andOne (L : Nat → Bool) (i : Nat) (j : Nat) : Bool := if j = i then true else L j

theorem listedF_set (l : Array Bool) (i : Nat) (hi : i < l.size) : listedF (l.setIfInBounds i true) = andOne (listedF l) i := by
  funext j
  unfold andOne
  show (l.setIfInBounds i true).getD j false = if j = i then true else l.getD j false
  rw [Array.getD_eq_getD_getElem?, Array.getD_eq_getD_getElem?]
  by_cases e : j = i
  · subst e; simp [hi]
  · rw [if_neg e, Array.getElem?_setIfInBounds_ne (Ne.symm e)]

/-- values put into slots -/
def putV (B : Array Value) (l : List (Nat × Value)) : Array Value := l.foldl (fun B p => B.setIfInBounds p.1 p.2) B
theorem putV_eq (B' : Array Value) : ∀ (l : List (Nat × Value)) (B : Array Value), (∀ p ∈ l, B'[p.1]? = some p.2) → (∀ s, (∀ p ∈ l, p.1 ≠ s) → B'[s]? = B[s]?) → B'.size = B.size → putV B l = B'
  | [], B, _, h2, _ => by
    apply Array.ext_getElem?
    intro s
    exact (h2 s (fun p hp => by cases hp)).symm
  | p :: l, B, h1, h2, h3 => by
    unfold putV
    rw [List.foldl_cons]
    refine putV_eq B' l (B.setIfInBounds p.1 p.2) (fun q hq => h1 q (List.mem_cons_of_mem _ hq)) (fun s hs => ?_) (by simpa using h3)
    by_cases e : p.1 = s
    · subst e
      have h4 := h1 p (List.mem_cons_self ..)
      have hlt : p.1 < B.size := by rw [← h3]; exact (Array.getElem?_eq_some_iff.1 h4).1
      rw [h4, Array.getElem?_setIfInBounds_self_of_lt hlt]
    · rw [Array.getElem?_setIfInBounds_ne e]
      refine h2 s (fun q hq => ?_)
      rcases List.mem_cons.1 hq with rfl | hq
      · exact e
      · exact hs q hq

theorem notYet {ops : Array Oper} {L : Nat → Bool} (hc : ∀ j o k, ops[j]? = some o → L j = true → needs o k = true → L k = true) {j k : Nat} {o : Oper} (ho : ops[j]? = some o) (hn : needs o k = true) (hk : L k = false) : L j = false := by
  cases h : L j with
  | false => rfl
  | true => rw [hc j o k ho h hn] at hk; cases hk
/-- an operation behind a guard: is it asked -/
theorem wanted_iff {ops : Array Oper} {tmps : Array Value} {o : Oper} {j s : Nat} {b : Bool} {v : Value} (hg : o.guard = some (j, b)) (hd : (ops[j]?.bind fun x => x.dst) = some s) (ht : tmps[s]? = some v) : Region.wanted o (yielded ops tmps) = true ↔ v = .bool b := by
  cases v <;> simp [Region.wanted, yielded, hg, hd, ht]
theorem wanted_yes {ops : Array Oper} {tmps : Array Value} {o : Oper} {j s : Nat} {b : Bool} (hg : o.guard = some (j, b)) (hd : (ops[j]?.bind fun x => x.dst) = some s) (ht : tmps[s]? = some (.bool b)) : Region.wanted o (yielded ops tmps) = true := (wanted_iff hg hd ht).2 rfl
theorem wanted_no {ops : Array Oper} {tmps : Array Value} {o : Oper} {j s : Nat} {b : Bool} (hg : o.guard = some (j, b)) (hd : (ops[j]?.bind fun x => x.dst) = some s) (ht : tmps[s]? = some (.bool (!b))) : ¬ Region.wanted o (yielded ops tmps) = true := by
  rw [wanted_iff hg hd ht]
  cases b <;> simp
theorem wanted_no2 {ops : Array Oper} {tmps : Array Value} {o : Oper} {j s : Nat} {b : Bool} (hg : o.guard = some (j, b)) (hd : (ops[j]?.bind fun x => x.dst) = some s) (ht : tmps[s]? = some undef) : ¬ Region.wanted o (yielded ops tmps) = true := by
  rw [wanted_iff hg hd ht]
  simp [undef]
theorem andOne_ne {L : Nat → Bool} {i j : Nat} (h : j ≠ i) : andOne L i j = L j := if_neg h
theorem andOne_self (L : Nat → Bool) (i : Nat) : andOne L i i = true := if_pos rfl

/-- one value more -/
def andV (vs : Nat → Value) (i : Nat) (v : Value) (j : Nat) : Value := if j = i then v else vs j
section
variable {P : Program} {ops : Array Oper} {Q : Exit → Act → World → Prop} {a0 : Act} {w : World} {dd : Nat → Option Nat} {kv : Nat → Option Value} {WI : (Nat → Bool) → (Nat → Value) → World → Prop}
/-- what is known on the way -/
structure Way3 (ops : Array Oper) (dd : Nat → Option Nat) (kv : Nat → Option Value) (WI : (Nat → Bool) → (Nat → Value) → World → Prop) (a0 : Act) (L : Nat → Bool) (vs : Nat → Value) (A : Act) (u : World) : Prop where
  wi : WI L vs u
  known : ∀ j v, L j = true → kv j = some v → vs j = v
  defers : A.defers = a0.defers
  size : A.tmps.size = a0.tmps.size
  out : ∀ s, (∀ j, j < ops.size → dd j ≠ some s) → A.tmps[s]? = a0.tmps[s]?
  val : ∀ j s, j < ops.size → L j = true → dd j = some s → A.tmps[s]? = some (vs j)
  closed : ∀ j o k, ops[j]? = some o → L j = true → needs o k = true → L k = true
  fresh : ∀ j s, j < ops.size → L j = false → dd j = some s → A.tmps[s]? = a0.tmps[s]?
/-- one operation, whenever it comes -/
def StepAt3 (P : Program) (ops : Array Oper) (Q : Exit → Act → World → Prop) (dd : Nat → Option Nat) (kv : Nat → Option Value) (WI : (Nat → Bool) → (Nat → Value) → World → Prop) (a0 : Act) (i : Nat) (o : Oper) : Prop :=
  ∀ (L : Nat → Bool) (vs : Nat → Value) (A : Act) (u : World), Way3 ops dd kv WI a0 L vs A u → L i = false → (∀ k, needs o k = true → L k = true) →
    ∀ K : Act → World → Prop, (∀ v u', (∀ v0, kv i = some v0 → v = v0) → WI (andOne L i) (andV vs i v) u' → K (A.put o.dst v) u') → if Region.wanted o (yielded ops A.tmps) = true then Oper.wp P o A u K Q else K (A.put o.dst undef) u
def StepsFrom3 (P : Program) (ops : Array Oper) (Q : Exit → Act → World → Prop) (dd : Nat → Option Nat) (kv : Nat → Option Value) (WI : (Nat → Bool) → (Nat → Value) → World → Prop) (a0 : Act) : Nat → List Oper → Prop
  | _, [] => True
  | i, o :: l => StepAt3 P ops Q dd kv WI a0 i o ∧ StepsFrom3 P ops Q dd kv WI a0 (i + 1) l
theorem steps_at3 (l : List Oper) (k : Nat) (h : StepsFrom3 P ops Q dd kv WI a0 k l) (i : Nat) (o : Oper) (ho : l[i]? = some o) : StepAt3 P ops Q dd kv WI a0 (k + i) o := by
  induction l generalizing k i with
  | nil => simp at ho
  | cons p l ih =>
    cases i with
    | zero => simp at ho; subst ho; exact h.1
    | succ i =>
      have := ih (k + 1) h.2 i (by simpa using ho)
      rwa [show k + 1 + i = k + (i + 1) from by omega] at this
theorem wpAny_gho
    (hd : ∀ i o, ops[i]? = some o → o.dst = dd i) (hinj : ∀ i j s, i < ops.size → j < ops.size → dd i = some s → dd j = some s → i = j) (hsz : ∀ i s, i < ops.size → dd i = some s → s < a0.tmps.size)
    (hlex : ∀ i o, ops[i]? = some o → ∀ e ∈ o.after, Region.binds .any e = true → e.on < i)
    (hsteps : ∀ i o, ops[i]? = some o → StepAt3 P ops Q dd kv WI a0 i o)
    (hdone : ∀ L vs A u, Way3 ops dd kv WI a0 L vs A u → (∀ i, i < ops.size → L i = true) → Q .normal A u) :
    ∀ (fuel : Nat) (listed : Array Bool) (vs : Nat → Value) (A : Act) (u : World), listed.size = ops.size → unl listed.toList ≤ fuel → Way3 ops dd kv WI a0 (listedF listed) vs A u → wpAny P .any ops Q fuel listed A u := by
  have gd : ∀ (listed : Array Bool), listed.size = ops.size → ∀ i, i < ops.size → listed.getD i true = listed.getD i false := fun listed hl i hi => by
    have : i < listed.size := by omega
    simp [Array.getD, this]
  have all_of_ready : ∀ (listed : Array Bool), listed.size = ops.size → Region.ready .any ops listed = [] → ∀ i, i < ops.size → listed.getD i false = true := by
    intro listed hl hr i
    induction i using Nat.strongRecOn with
    | _ i ih =>
      intro hi
      by_cases hc : listed.getD i false = true
      · exact hc
      · exfalso
        have ho : ops[i]? = some ops[i] := Array.getElem?_eq_getElem hi
        have hmem : i ∈ Region.ready .any ops listed := by
          unfold Region.ready
          rw [List.mem_filter]
          refine ⟨List.mem_range.2 hi, ?_⟩
          rw [gd listed hl i hi, ho]
          have h1 : (!listed.getD i false) = true := by simpa using hc
          rw [h1]
          simp only [Option.map_some, Option.getD_some, Bool.true_and]
          rw [Array.all_eq_true']
          intro e he
          by_cases hb : Region.binds .any e = true
          · have hlt := hlex i _ ho e he hb
            rw [ih e.on hlt (by omega)]; simp
          · simp [hb]
        rw [hr] at hmem
        cases hmem
  intro fuel
  induction fuel with
  | zero =>
    intro listed vs A u hl hf hW
    have hall : ∀ i, i < ops.size → listed.getD i false = true := fun i hi => by
      have := unl_zero listed.toList (by omega) i (by simpa [hl] using hi)
      have hi' : i < listed.size := by omega
      simp at this
      simp [Array.getD, hi']
      rw [Array.getElem?_eq_getElem hi'] at this
      simpa using this
    refine ⟨?_, hdone _ vs A u hW hall⟩
    unfold Region.ready
    rw [List.filter_eq_nil_iff]
    intro i hi
    have hi' := List.mem_range.1 hi
    rw [gd listed hl i hi', hall i hi']
    simp
  | succ fuel ihf =>
    intro listed vs A u hl hf hW
    refine ⟨fun hr => hdone _ vs A u hW (fun i hi => all_of_ready listed hl hr i hi), fun i hi => ?_⟩
    unfold Region.ready at hi
    rw [List.mem_filter] at hi
    obtain ⟨hi1, hi2⟩ := hi
    have hi' := List.mem_range.1 hi1
    have ho : ops[i]? = some ops[i] := Array.getElem?_eq_getElem hi'
    rw [ho] at hi2
    simp only [Option.map_some, Option.getD_some, Bool.and_eq_true] at hi2
    obtain ⟨hun, hdeps⟩ := hi2
    rw [gd listed hl i hi'] at hun
    have hun' : listed.getD i false = false := by simpa using hun
    have hneed : ∀ j, needs ops[i] j = true → listedF listed j = true := by
      intro j hj
      unfold needs at hj
      rw [Array.any_eq_true'] at hj
      obtain ⟨e, he, hb⟩ := hj
      rw [Bool.and_eq_true, beq_iff_eq] at hb
      obtain ⟨hb, rfl⟩ := hb
      rw [Array.all_eq_true'] at hdeps
      have h2 := hdeps e he
      rw [hb] at h2
      unfold listedF
      simpa using h2
    have hdi := hd i _ ho
    have hstep := hsteps i _ ho (listedF listed) vs A u hW hun' hneed (wpAny P .any ops Q fuel (listed.setIfInBounds i true)) (fun vnew u' hkn hu' => by
      rw [hdi]
      have hsz' : (A.put (dd i) vnew).tmps.size = A.tmps.size := by cases h : dd i <;> simp [Act.put]
      refine ihf _ (andV vs i vnew) _ _ (by simp [hl]) ?_ ⟨?_, ?_, ?_, ?_, ?_, ?_, ?_, ?_⟩
      · have h3 : listed.toList[i]? = some false := by
          have hi'' : i < listed.size := by omega
          have h4 : listed[i] = false := by simpa [Array.getD, hi''] using hun'
          simp [hi'', h4]
        have := unl_set listed.toList i h3
        rw [Array.toList_setIfInBounds]
        omega
      · rw [listedF_set _ _ (by omega)]; exact hu'
      · intro j v hL hj
        rw [listedF_set _ _ (by omega)] at hL
        by_cases hji : j = i
        · subst hji
          simp only [andV, if_true]
          exact hkn v hj
        · have hL' : listedF listed j = true := by simpa [andOne, hji] using hL
          simp only [andV, if_neg hji]
          exact hW.known j v hL' hj
      · cases h : dd i <;> simpa [Act.put] using hW.defers
      · rw [hsz']; exact hW.size
      · intro s hs
        cases h : dd i with
        | none => simpa [Act.put] using hW.out s hs
        | some d =>
          simp only [Act.put]
          rw [Array.getElem?_setIfInBounds_ne (fun e => hs i hi' (by rw [h, e]))]
          exact hW.out s hs
      · intro j s hj hL hs
        rw [listedF_set _ _ (by omega)] at hL
        by_cases hji : j = i
        · subst hji
          rw [hs]
          have hlt : s < A.tmps.size := by rw [hW.size]; exact hsz j s hj hs
          simp [Act.put, hlt, andV]
        · have hL' : listedF listed j = true := by simpa [andOne, hji] using hL
          have hv := hW.val j s hj hL' hs
          have hva : andV vs i vnew j = vs j := by simp only [andV, if_neg hji]
          rw [hva]
          cases h : dd i with
          | none => simpa [Act.put] using hv
          | some d =>
            simp only [Act.put]
            rw [Array.getElem?_setIfInBounds_ne (fun e => hji (hinj j i s hj hi' hs (by rw [h, e])))]
            exact hv
      · intro j o k hoj hL hk
        rw [listedF_set _ _ (by omega)] at hL ⊢
        by_cases hji : j = i
        · subst hji
          rw [ho] at hoj
          obtain rfl := Option.some.inj hoj
          have := hneed k hk
          unfold andOne
          split <;> simp [this]
        · have hL' : listedF listed j = true := by simpa [andOne, hji] using hL
          have := hW.closed j o k hoj hL' hk
          unfold andOne
          split <;> simp [this]
      · intro j s hj hL hs
        rw [listedF_set _ _ (by omega)] at hL
        by_cases hji : j = i
        · subst hji
          simp [andOne] at hL
        · have hL' : listedF listed j = false := by simpa [andOne, hji] using hL
          have hv := hW.fresh j s hj hL' hs
          cases h : dd i with
          | none => simpa [Act.put] using hv
          | some d =>
            simp only [Act.put]
            rw [Array.getElem?_setIfInBounds_ne (fun e => hji (hinj j i s hj hi' hs (by rw [h, e])))]
            exact hv)
    unfold wpOp
    rw [ho]
    by_cases hwn : Region.wanted ops[i] (yielded ops A.tmps) = true
    · rw [if_pos hwn] at hstep
      simp only [hwn, if_true]
      exact .inl hstep
    · rw [if_neg hwn] at hstep
      simp only [hwn]
      exact hstep

theorem region_gho {id : Nat} (hm : P.follows .mixedOrders = true) (dd : Nat → Option Nat) (kv : Nat → Option Value) (WI : (Nat → Bool) → (Nat → Value) → World → Prop) (N n : Nat) (hn : ops.size = n)
    (hd : ((List.range n).all fun i => (ops[i]?).map (·.dst) == some (dd i)) = true)
    (hinj : ((List.range n).all fun i => (List.range n).all fun j => (dd i).isNone || dd i != dd j || i == j) = true) (hN : a0.tmps.size = N) (hsz : ((List.range n).all fun i => match dd i with | none => true | some s => decide (s < N)) = true)
    (hlex : ((List.range n).all fun i => ((ops[i]?).map fun o => o.after.all fun e => !Region.binds .any e || decide (e.on < i)) == some true) = true)
    (hbegin : WI (fun _ => false) (fun _ => undef) w.drew)
    (hsteps : StepsFrom3 P ops Q dd kv WI a0 0 ops.toList)
    (l : (Nat → Value) → List (Nat × Value)) (hl : ∀ vs, ((List.range n).filterMap fun i => (dd i).map fun s => (s, vs i)) = l vs)
    (hdone : ∀ L vs u, WI L vs u → (∀ j v, j < n → kv j = some v → vs j = v) → (∀ i, i < n → L i = true) → Q .normal ⟨putV a0.tmps (l vs), a0.defers⟩ u) : (Code.region id ops true).wp P Q a0 w := by
  subst hn hN
  refine wp_region_any hm ?_
  have lt_of : ∀ i o, ops[i]? = some o → i < ops.size := fun i o ho => (Array.getElem?_eq_some_iff.1 ho).1
  refine wpAny_gho (dd := dd) (kv := kv) (WI := WI) (a0 := a0) (fun i o ho => ?_) (fun i j s hi hj h1 h2 => ?_) (fun i s hi h => ?_) (fun i o ho e he hb => ?_) (fun i o ho => ?_) (fun L vs A u hW hall => ?_) ops.size _ (fun _ => undef) a0 _ (by simp) (by simp [unl_replicate]) ⟨?_, ?_, rfl, rfl, fun _ _ => rfl, ?_, ?_, fun _ _ _ _ _ => rfl⟩
  · have := List.all_eq_true.1 hd i (List.mem_range.2 (lt_of i o ho))
    simpa [ho] using this
  · have := List.all_eq_true.1 (List.all_eq_true.1 hinj i (List.mem_range.2 hi)) j (List.mem_range.2 hj)
    rw [h1, h2] at this
    simpa using this
  · have := List.all_eq_true.1 hsz i (List.mem_range.2 hi)
    rw [h] at this
    simpa using this
  · have := List.all_eq_true.1 hlex i (List.mem_range.2 (lt_of i o ho))
    rw [ho] at this
    simp only [Option.map_some, beq_iff_eq, Option.some.injEq] at this
    rw [Array.all_eq_true'] at this
    have h2 := this e he
    rw [hb] at h2
    simpa using h2
  · have := steps_at3 ops.toList 0 hsteps i o (by simpa using ho)
    rwa [Nat.zero_add] at this
  · have h := hdone L vs u hW.wi (fun j v hj hk => hW.known j v (hall j hj) hk) hall
    rw [← hl vs] at h
    have e : putV a0.tmps ((List.range ops.size).filterMap fun i => (dd i).map fun s => (s, vs i)) = A.tmps := by
      refine putV_eq _ _ _ (fun p hp => ?_) (fun s hs => ?_) hW.size
      · obtain ⟨i, hi, hp⟩ := List.mem_filterMap.1 hp
        obtain ⟨s, hs, rfl⟩ := Option.map_eq_some_iff.1 hp
        have hi' := List.mem_range.1 hi
        exact hW.val i s hi' (hall i hi') hs
      · refine hW.out s (fun j hj e => hs (s, vs j) (List.mem_filterMap.2 ⟨j, List.mem_range.2 hj, by rw [e]; rfl⟩) rfl)
    rw [e, ← hW.defers] at h
    exact h
  · have : listedF (Array.replicate ops.size false) = fun _ => false := by
      funext j
      unfold listedF
      rw [Array.getD_eq_getD_getElem?, Array.getElem?_replicate]
      split <;> rfl
    rw [this]
    exact hbegin
  · intro j v hL
    unfold listedF at hL
    rw [Array.getD_eq_getD_getElem?, Array.getElem?_replicate] at hL
    split at hL <;> simp at hL
  · intro j s hj hL
    unfold listedF at hL
    rw [Array.getD_eq_getD_getElem?, Array.getElem?_replicate] at hL
    split at hL <;> simp at hL
  · intro j o k ho hL
    unfold listedF at hL
    rw [Array.getD_eq_getD_getElem?, Array.getElem?_replicate] at hL
    split at hL <;> simp at hL
end
theorem andV_ne {vs : Nat → Value} {i j : Nat} {v : Value} (h : j ≠ i) : andV vs i v j = vs j := if_neg h
theorem andV_self (vs : Nat → Value) (i : Nat) (v : Value) : andV vs i v i = v := if_pos rfl

/-- what is told of the values, and of the world -/
structure Tel (PP : Nat → Value → World → Prop) (S : (Nat → Bool) → World → Prop) (L : Nat → Bool) (vs : Nat → Value) (u : World) : Prop where
  s : S L u
  pp : ∀ j, L j = true → PP j (vs j) u
section
variable {P : Program} {ops : Array Oper} {Q : Exit → Act → World → Prop} {a0 : Act} {w : World} {dd : Nat → Option Nat} {PP : Nat → Value → World → Prop} {Fr : World → World → Prop} {S : (Nat → Bool) → World → Prop}
/-- what is known on the way: Way3, of values told by predicates -/
abbrev WayT (ops : Array Oper) (dd : Nat → Option Nat) (PP : Nat → Value → World → Prop) (S : (Nat → Bool) → World → Prop) (a0 : Act) (L : Nat → Bool) (vs : Nat → Value) (A : Act) (u : World) : Prop :=
  Way3 ops dd (fun _ => none) (Tel PP S) a0 L vs A u
theorem Way3.tel {L : Nat → Bool} {vs : Nat → Value} {A : Act} {u : World} (h : WayT ops dd PP S a0 L vs A u) (j s : Nat) (hj : j < ops.size) (hL : L j = true) (hs : dd j = some s) : ∃ v, A.tmps[s]? = some v ∧ PP j v u :=
  ⟨vs j, h.val j s hj hL hs, h.wi.pp j hL⟩
/-- one operation, whenever it comes -/
def StepAtT (P : Program) (ops : Array Oper) (Q : Exit → Act → World → Prop) (dd : Nat → Option Nat) (PP : Nat → Value → World → Prop) (Fr : World → World → Prop) (S : (Nat → Bool) → World → Prop) (a0 : Act) (i : Nat) (o : Oper) : Prop :=
  ∀ (L : Nat → Bool) (vs : Nat → Value) (A : Act) (u : World), WayT ops dd PP S a0 L vs A u → L i = false → (∀ k, needs o k = true → L k = true) →
    ∀ K : Act → World → Prop, (∀ v u', PP i v u' → Fr u u' → S (andOne L i) u' → K (A.put o.dst v) u') → if Region.wanted o (yielded ops A.tmps) = true then Oper.wp P o A u K Q else K (A.put o.dst undef) u
def StepsFromT (P : Program) (ops : Array Oper) (Q : Exit → Act → World → Prop) (dd : Nat → Option Nat) (PP : Nat → Value → World → Prop) (Fr : World → World → Prop) (S : (Nat → Bool) → World → Prop) (a0 : Act) : Nat → List Oper → Prop
  | _, [] => True
  | i, o :: l => StepAtT P ops Q dd PP Fr S a0 i o ∧ StepsFromT P ops Q dd PP Fr S a0 (i + 1) l
theorem stepT_gho (hFr : ∀ i v u u', PP i v u → Fr u u' → PP i v u') {i : Nat} {o : Oper} (h : StepAtT P ops Q dd PP Fr S a0 i o) : StepAt3 P ops Q dd (fun _ => none) (Tel PP S) a0 i o := by
  intro L vs A u hW hL0 hnd K hK
  refine h L vs A u hW hL0 hnd K (fun v u' hp hf hs => hK v u' (fun v0 e => by cases e) ⟨hs, fun j hj => ?_⟩)
  by_cases e : j = i
  · subst e
    rw [andV_self]; exact hp
  · rw [andV_ne e]
    rw [andOne_ne e] at hj
    exact hFr j _ u u' (hW.wi.pp j hj) hf
theorem stepsT_gho (hFr : ∀ i v u u', PP i v u → Fr u u' → PP i v u') (l : List Oper) (k : Nat) (h : StepsFromT P ops Q dd PP Fr S a0 k l) : StepsFrom3 P ops Q dd (fun _ => none) (Tel PP S) a0 k l := by
  induction l generalizing k with
  | nil => trivial
  | cons o l ih => exact ⟨stepT_gho hFr h.1, ih _ h.2⟩
/-- The region's law: each operation is shown once; behind it every value has its predicate. -/
theorem region_tel {id : Nat} (hm : P.follows .mixedOrders = true) (dd : Nat → Option Nat) (PP : Nat → Value → World → Prop) (Fr : World → World → Prop) (S : (Nat → Bool) → World → Prop) (N n : Nat) (hn : ops.size = n)
    (hd : ((List.range n).all fun i => (ops[i]?).map (·.dst) == some (dd i)) = true)
    (hinj : ((List.range n).all fun i => (List.range n).all fun j => (dd i).isNone || dd i != dd j || i == j) = true) (hN : a0.tmps.size = N) (hsz : ((List.range n).all fun i => match dd i with | none => true | some s => decide (s < N)) = true)
    (hlex : ((List.range n).all fun i => ((ops[i]?).map fun o => o.after.all fun e => !Region.binds .any e || decide (e.on < i)) == some true) = true)
    (hFr : ∀ i v u u', PP i v u → Fr u u' → PP i v u')
    (hbegin : S (fun _ => false) w.drew)
    (hsteps : StepsFromT P ops Q dd PP Fr S a0 0 ops.toList)
    (l : (Nat → Value) → List (Nat × Value)) (hl : ∀ vs, ((List.range n).filterMap fun i => (dd i).map fun s => (s, vs i)) = l vs)
    (hdone : ∀ L vs u, S L u → (∀ j, j < n → PP j (vs j) u) → (∀ i, i < n → L i = true) → Q .normal ⟨putV a0.tmps (l vs), a0.defers⟩ u) : (Code.region id ops true).wp P Q a0 w :=
  region_gho hm dd (fun _ => none) (Tel PP S) N n hn hd hinj hN hsz hlex ⟨hbegin, fun _ e => by cases e⟩ (stepsT_gho hFr _ _ hsteps) l hl
    (fun L vs u hW _ hall => hdone L vs u hW.s (fun j hj => hW.pp j (hall j hj)) hall)
end
/-- predicates, one a value -/
def PL (l : List (Value → World → Prop)) (i : Nat) : Value → World → Prop := l.getD i (fun _ _ => True)
/-- the value is this one -/
abbrev eqP (V : Value) : Value → World → Prop := fun v _ => v = V
/-- each predicate stays -/
def StabAll (Fr : World → World → Prop) : List (Value → World → Prop) → Prop
  | [] => True
  | p :: l => (∀ v u u', p v u → Fr u u' → p v u') ∧ StabAll Fr l
theorem stab_all {Fr : World → World → Prop} {l : List (Value → World → Prop)} (h : StabAll Fr l) : ∀ i v u u', PL l i v u → Fr u u' → PL l i v u' := by
  induction l with
  | nil => intro i v u u' _ _; simp [PL]
  | cons p l ih =>
    intro i
    cases i with
    | zero => exact h.1
    | succ i => exact ih h.2 i
end Go.Proofs.YtphpciglpnbblaaDoor
