/-
  Differences, in plain mathematics; append of numbers.
-/
import Derived.Test.YtgjnhbfdbiibdaaKAwake
import Derived.Test.YtgjnhbfdbiibdaaKRstR
import Derived.Maps.AppendAt
import Derived.Deep.Upon
namespace Go.Proofs.Ytgjnhbfdbiibdaa
open Go.RowKit

/-- ives b... (nil, empty or not), appended to a row of the call's own -/
theorem run_append_ints {w : World} (base : Nat) (v : Value) (n : Nat) (xs : List Value) (hown : w.ownsRow base 3 1 v n xs) (A : Option Addr) (m c : Nat) (bs : List Int) (hs : ISrc w (.slice A m c) bs)
    (h63 : n + m ≤ 1000000) (hbase : base ≤ w.heap.size) (ty : TypeId) :
    ∃ v' w', (Builtin.append_ #[22, 22] ty #[v, .slice A m c]).run Try.prog w = .ok v' w' ∧ w'.ownsRow base 3 1 v' (n + m) (xs ++ bs.map iv) ∧ w.grownBy w' v.ownBlock ∧ (v'.ownBlock = v.ownBlock ∨ v'.ownBlock = some w.heap.size) := by
  obtain ⟨i0, hi, hz0, hz1, hz2⟩ := info_parts Try.info_int
  obtain rfl := hs.len
  cases A with
  | some ad =>
    obtain ⟨v', w', h1, h2, h3, _, h5⟩ := run_append_own_at (P := Try.prog) w base 22 ty 3 i0 (.int .i64 0) 1 8 Try.underlying22 hi hz0 hz1 hz2 rfl (by decide) v n xs hown ad bs.length c (bs.map iv) (by simp)
      (fun j u hu => by
        rw [List.getElem?_map] at hu
        obtain ⟨x, hx, rfl⟩ := Option.map_eq_some_iff.1 hu
        obtain ⟨hj, rfl⟩ := List.getElem?_eq_some_iff.1 hx
        obtain ⟨ad', e, hc⟩ := hs.at_ hj
        injection e with e
        subst e
        exact hc)
      (fun u hu => by obtain ⟨y, _, rfl⟩ := List.mem_map.1 hu; rfl) (by unfold maxLen; omega) (by omega) hbase
    exact ⟨v', w', h1, h2, h3, h5⟩
  | none =>
    have hb : bs = [] := by
      cases bs with
      | nil => rfl
      | cons x r =>
        obtain ⟨ad', e, _⟩ := hs.at_ (k := 0) (by simp)
        cases e
    subst hb
    have hsrc : Go.Src Try.prog i0.size 22 (.slice none 0 c) 0 [] w := Go.Src.ofNil w Try.underlying22 c
    have key : ∀ B k d, v = .slice B k d → k ≤ d → (Builtin.append_ #[22, 22] ty #[v, .slice none 0 c]).run Try.prog w = .ok v w := by
      rintro B k d rfl hle
      exact run_append_nothing w 22 22 ty 3 i0 Try.underlying22 hi B k d hle _ hsrc
    refine ⟨v, w, ?_, by simpa using hown, ⟨rfl, rfl, rfl, Nat.le_refl _, fun _ _ _ => rfl⟩, .inl rfl⟩
    rcases hown.2 with ⟨hv, _⟩ | ⟨g, cap, cur, hv, _, _, hle, _⟩
    · exact key _ _ _ hv (Nat.le_refl _)
    · exact key _ _ _ hv hle
/-- .. at the operation -/
theorem wpList_append_ints {w : World} {ops : Array Oper} {rest : List Oper} {o : Oper} {a : Act} {Q : Exit → Act → World → Prop} (hgd : o.guard = none) (s x : Operand)
    (ho : o.op = .call { callee := .builtin .append, args := #[s, x], argTypes := #[22, 22] })
    (base : Nat) (v : Value) (n : Nat) (xs : List Value) (hs : a.eval s = v) (hown : w.ownsRow base 3 1 v n xs)
    (A : Option Addr) (m c : Nat) (bs : List Int) (hx : a.eval x = .slice A m c) (hsrc : ISrc w (.slice A m c) bs) (h63 : n + m ≤ 1000000) (hbase : base ≤ w.heap.size)
    (h : ∀ v' w', w'.ownsRow base 3 1 v' (n + m) (xs ++ bs.map iv) → w.grownBy w' v.ownBlock → (v'.ownBlock = v.ownBlock ∨ v'.ownBlock = some w.heap.size) → wpList Try.prog ops Q rest (a.put o.dst v') w') :
    wpList Try.prog ops Q (o :: rest) a w := by
  refine wpList_plain hgd fun K hK => ?_
  obtain ⟨v', w', hr, h2, h3, h4⟩ := run_append_ints base v n xs hown A m c bs hsrc h63 hbase o.type
  unfold Oper.wp execOp
  simp only [ho, resolve, invoke, builtin, Sem.run_bind, Sem.run_pure, Result.andThen_ok, List.map_toArray, List.map_cons, List.map_nil, hs, hx, hr]
  exact hK _ _ (h v' w' h2 h3 h4)

/-- the differences of numbers -/
def dif1 (xs : List Int) : List Int := (List.range (xs.length - 1)).map fun k => xs.getD (k + 1) 0 - xs.getD k 0
/-- .. so often -/
def difN : Nat → List Int → List Int
  | 0, xs => xs
  | k + 1, xs => dif1 (difN k xs)
theorem dif1_len (xs : List Int) : (dif1 xs).length = xs.length - 1 := by simp [dif1]
theorem dif1_getD (xs : List Int) (j : Nat) (h : j < xs.length - 1) : (dif1 xs).getD j 0 = xs.getD (j + 1) 0 - xs.getD j 0 := by
  unfold dif1
  rw [List.getD_eq_getElem?_getD, List.getElem?_map, List.getElem?_range h]
  rfl
theorem difN_len (k : Nat) (xs : List Int) : (difN k xs).length = xs.length - k := by
  induction k with
  | zero => rfl
  | succ k ih => simp only [difN, dif1_len, ih]; omega
theorem dif1_take (xs : List Int) (j : Nat) (h : j + 1 < xs.length) : (dif1 xs).take (j + 1) = (dif1 xs).take j ++ [xs.getD (j + 1) 0 - xs.getD j 0] := by
  have h1 : j < (dif1 xs).length := by rw [dif1_len]; omega
  rw [List.take_succ_eq_append_getElem h1, ← getD_of h1, dif1_getD xs j (by omega)]
theorem difN_bound (xs : List Int) (h : ∀ x ∈ xs, isS x) (k : Nat) : ∀ y ∈ difN k xs, -(4294967296 * ((2 ^ k : Nat) : Int)) ≤ y ∧ y ≤ 4294967296 * ((2 ^ k : Nat) : Int) := by
  induction k with
  | zero =>
    intro y hy
    have := h y hy
    unfold isS at this
    simp
    omega
  | succ k ih =>
    intro y hy
    obtain ⟨j, _, rfl⟩ := List.mem_map.1 hy
    have hp := Nat.two_pow_pos k
    have h1 := getD_all (p := fun y => -(4294967296 * ((2 ^ k : Nat) : Int)) ≤ y ∧ y ≤ 4294967296 * ((2 ^ k : Nat) : Int)) ih (by omega) (j + 1)
    have h2 := getD_all (p := fun y => -(4294967296 * ((2 ^ k : Nat) : Int)) ≤ y ∧ y ≤ 4294967296 * ((2 ^ k : Nat) : Int)) ih (by omega) j
    rw [show 2 ^ (k + 1) = 2 ^ k + 2 ^ k by rw [Nat.pow_succ]; omega]
    generalize 2 ^ k = K at *
    omega
theorem difN_small (xs : List Int) (h : ∀ x ∈ xs, isS x) (k : Nat) (hk : k ≤ 4) : ∀ y ∈ difN k xs, -68719476736 ≤ y ∧ y ≤ 68719476736 := by
  intro y hy
  have h1 := difN_bound xs h k y hy
  have h2 := pow_le_of hk
  have h3 : (2 : Nat) ^ 4 = 16 := rfl
  generalize 2 ^ k = K at *
  omega
/-- a fixed order's residuals are the differences, so often -/
theorem res_difN (xs : List Int) (k : Nat) (hk : k ≤ 4) (hn : k ≤ xs.length) (h : ∀ x ∈ xs, isS x) : resV 4 0 (fx k) xs = difN k xs := by
  unfold resV
  rw [if_pos (resE_fx xs k hk hn h), fx_len k hk]
  refine List.ext_getElem (by rw [resT_len, difN_len]) (fun j h1 h2 => ?_)
  rw [← getD_of h1, ← getD_of h2]
  rw [resT_len] at h1
  have hT : (resT (0 : Int).toNat (fx k) xs (xs.length - k)).getD j 0 = xs.getD (k + j) 0 - tld 0 (fx k) xs (k + j) := by
    unfold resT
    rw [List.getD_eq_getElem?_getD, List.getElem?_map, List.getElem?_range h1, fx_len k hk]
    rfl
  rw [hT]
  have ht : ∀ cs at_, tld 0 cs xs at_ = dot cs xs at_ := fun cs at_ => by unfold tld; simp
  rw [ht]
  have d1 : ∀ j, j < xs.length - 1 → (difN 1 xs).getD j 0 = xs.getD (j + 1) 0 - xs.getD j 0 := fun j hj => dif1_getD xs j hj
  have d2 : ∀ j, j < xs.length - 2 → (difN 2 xs).getD j 0 = xs.getD (j + 2) 0 - 2 * xs.getD (j + 1) 0 + xs.getD j 0 := fun j hj => by
    have := dif1_getD (difN 1 xs) j (by rw [difN_len]; omega)
    rw [d1 (j + 1) (by omega), d1 j (by omega)] at this
    show (dif1 (difN 1 xs)).getD j 0 = _
    rw [this]
    have e1 : j + 1 + 1 = j + 2 := by omega
    rw [e1]
    omega
  have d3 : ∀ j, j < xs.length - 3 → (difN 3 xs).getD j 0 = xs.getD (j + 3) 0 - 3 * xs.getD (j + 2) 0 + 3 * xs.getD (j + 1) 0 - xs.getD j 0 := fun j hj => by
    have := dif1_getD (difN 2 xs) j (by rw [difN_len]; omega)
    rw [d2 (j + 1) (by omega), d2 j (by omega)] at this
    show (dif1 (difN 2 xs)).getD j 0 = _
    rw [this]
    have e1 : j + 1 + 2 = j + 3 := by omega
    have e2 : j + 1 + 1 = j + 2 := by omega
    rw [e1, e2]
    omega
  have d4 : ∀ j, j < xs.length - 4 → (difN 4 xs).getD j 0 = xs.getD (j + 4) 0 - 4 * xs.getD (j + 3) 0 + 6 * xs.getD (j + 2) 0 - 4 * xs.getD (j + 1) 0 + xs.getD j 0 := fun j hj => by
    have := dif1_getD (difN 3 xs) j (by rw [difN_len]; omega)
    rw [d3 (j + 1) (by omega), d3 j (by omega)] at this
    show (dif1 (difN 3 xs)).getD j 0 = _
    rw [this]
    have e1 : j + 1 + 3 = j + 4 := by omega
    have e2 : j + 1 + 2 = j + 3 := by omega
    have e3 : j + 1 + 1 = j + 2 := by omega
    rw [e1, e2, e3]
    omega
  match k, hk with
  | 0, _ => simp [difN, fx, dot, dotL]
  | 1, _ =>
    rw [d1 j (by omega)]
    have e1 : 1 + j = j + 1 := by omega
    have e2 : j + 1 - 1 - 0 = j := by omega
    simp [fx, dot, dotL, e1]
  | 2, _ =>
    rw [d2 j (by omega)]
    have e1 : 2 + j = j + 2 := by omega
    have e2 : j + 2 - 1 - 0 = j + 1 := by omega
    have e3 : j + 2 - 1 - 1 = j := by omega
    have : dot (fx 2) xs (j + 2) = 2 * xs.getD (j + 2 - 1 - 0) 0 + (-1 * xs.getD (j + 2 - 1 - 1) 0 + 0) := rfl
    rw [e1, this, e2, e3]
    omega
  | 3, _ =>
    rw [d3 j (by omega)]
    have e1 : 3 + j = j + 3 := by omega
    have e2 : j + 3 - 1 - 0 = j + 2 := by omega
    have e3 : j + 3 - 1 - 1 = j + 1 := by omega
    have e4 : j + 3 - 1 - 2 = j := by omega
    have : dot (fx 3) xs (j + 3) = 3 * xs.getD (j + 3 - 1 - 0) 0 + (-3 * xs.getD (j + 3 - 1 - 1) 0 + (1 * xs.getD (j + 3 - 1 - 2) 0 + 0)) := rfl
    rw [e1, this, e2, e3, e4]
    omega
  | 4, _ =>
    rw [d4 j (by omega)]
    have e1 : 4 + j = j + 4 := by omega
    have e2 : j + 4 - 1 - 0 = j + 3 := by omega
    have e3 : j + 4 - 1 - 1 = j + 2 := by omega
    have e4 : j + 4 - 1 - 2 = j + 1 := by omega
    have e5 : j + 4 - 1 - 3 = j := by omega
    have : dot (fx 4) xs (j + 4) = 4 * xs.getD (j + 4 - 1 - 0) 0 + (-6 * xs.getD (j + 4 - 1 - 1) 0 + (4 * xs.getD (j + 4 - 1 - 2) 0 + (-1 * xs.getD (j + 4 - 1 - 3) 0 + 0))) := rfl
    rw [e1, this, e2, e3, e4, e5]
    omega
end Go.Proofs.Ytgjnhbfdbiibdaa
