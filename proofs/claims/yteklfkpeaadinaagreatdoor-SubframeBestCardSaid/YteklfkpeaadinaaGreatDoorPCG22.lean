/-
  Differences, in plain mathematics; append of numbers.
-/
import Derived.Test.YteklfkpeaadinaaGreatDoorPCG20
import Derived.Test.YteklfkpeaadinaaGreatDoorPCG19
import Derived.Laws.CopyOwn
import Derived.Maps.AppendAt
import Derived.Deep.Upon
namespace Go.Proofs.YteklfkpeaadinaaGreatDoor.K
open Go.RowKit

set_option maxRecDepth 100000 in
/-- numbers b... (nil, empty or not), appended to a row of the call's own -/
theorem run_append_ints {w : World} (base : Nat) (v : Value) (n : Nat) (xs : List Value) (hown : w.ownsRow base 3 1 v n xs) (A : Option Addr) (m c : Nat) (bs : List Int) (hs : ISrc w (.slice A m c) bs)
    (h63 : n + m ≤ 1000000) (hbase : base ≤ w.heap.size) (ty : TypeId) :
    ∃ v' w', (Builtin.append_ #[22, 22] ty #[v, .slice A m c]).run Tryz.prog w = .ok v' w' ∧ w'.ownsRow base 3 1 v' (n + m) (xs ++ bs.map iv) ∧ w.grownBy w' v.ownBlock ∧ (v'.ownBlock = v.ownBlock ∨ v'.ownBlock = some w.heap.size) := by
  obtain ⟨i0, hi, hz0, hz1, hz2⟩ := info_parts Tryz.info_int
  obtain rfl := hs.len
  cases A with
  | some ad =>
    obtain ⟨v', w', h1, h2, h3, _, h5⟩ := run_append_own_at (P := Tryz.prog) w base 22 ty 3 i0 (.int .i64 0) 1 8 Tryz.underlying22 hi hz0 hz1 hz2 rfl (by decide) v n xs hown ad bs.length c (bs.map iv) (by simp)
      (fun j u hu => by
        rw [List.getElem?_map] at hu
        obtain ⟨x, hx, rfl⟩ := Option.map_eq_some_iff.1 hu
        obtain ⟨hj, rfl⟩ := List.getElem?_eq_some_iff.1 hx
        obtain ⟨ad', e, hc⟩ := hs.at_ hj
        injection e with e
        subst e
        exact hc)
      (fun u hu => by obtain ⟨y, _, rfl⟩ := List.mem_map.1 hu; rfl) (by unfold maxLen; omega) (by omega) hbase
    exact ⟨v', w', h1, h2, h3, h5⟩
  | none =>
    have hb : bs = [] := by
      cases bs with
      | nil => rfl
      | cons x r =>
        obtain ⟨ad', e, _⟩ := hs.at_ (k := 0) (by simp)
        cases e
    subst hb
    have hsrc : Go.Src Tryz.prog i0.size 22 (.slice none 0 c) 0 [] w := Go.Src.ofNil w Tryz.underlying22 c
    have key : ∀ B k d, v = .slice B k d → k ≤ d → (Builtin.append_ #[22, 22] ty #[v, .slice none 0 c]).run Tryz.prog w = .ok v w := by
      rintro B k d rfl hle
      exact run_append_nothing w 22 22 ty 3 i0 Tryz.underlying22 hi B k d hle _ hsrc
    refine ⟨v, w, ?_, by simpa using hown, ⟨rfl, rfl, rfl, Nat.le_refl _, fun _ _ _ => rfl⟩, .inl rfl⟩
    rcases hown.2 with ⟨hv, _⟩ | ⟨g, cap, cur, hv, _, _, hle, _⟩
    · exact key _ _ _ hv (Nat.le_refl _)
    · exact key _ _ _ hv hle
/-- .. at the operation -/
theorem wpList_append_ints {w : World} {ops : Array Oper} {rest : List Oper} {o : Oper} {a : Act} {Q : Exit → Act → World → Prop} (hgd : o.guard = none) (s x : Operand)
    (ho : o.op = .call { callee := .builtin .append, args := #[s, x], argTypes := #[22, 22] })
    (base : Nat) (v : Value) (n : Nat) (xs : List Value) (hs : a.eval s = v) (hown : w.ownsRow base 3 1 v n xs)
    (A : Option Addr) (m c : Nat) (bs : List Int) (hx : a.eval x = .slice A m c) (hsrc : ISrc w (.slice A m c) bs) (h63 : n + m ≤ 1000000) (hbase : base ≤ w.heap.size)
    (h : ∀ v' w', w'.ownsRow base 3 1 v' (n + m) (xs ++ bs.map iv) → w.grownBy w' v.ownBlock → (v'.ownBlock = v.ownBlock ∨ v'.ownBlock = some w.heap.size) → wpList Tryz.prog ops Q rest (a.put o.dst v') w') :
    wpList Tryz.prog ops Q (o :: rest) a w := by
  refine wpList_plain hgd fun K hK => ?_
  obtain ⟨v', w', hr, h2, h3, h4⟩ := run_append_ints base v n xs hown A m c bs hsrc h63 hbase o.type
  unfold Oper.wp execOp
  simp only [ho, resolve, invoke, builtin, Sem.run_bind, Sem.run_pure, Result.andThen_ok, List.map_toArray, List.map_cons, List.map_nil, hs, hx, hr]
  exact hK _ _ (h v' w' h2 h3 h4)
/-- the differences of numbers -/
def dif1 (xs : List Int) : List Int := (List.range (xs.length - 1)).map fun k => xs.getD (k + 1) 0 - xs.getD k 0
/-- .. so often -/
def difN : Nat → List Int → List Int
  | 0, xs => xs
  | k + 1, xs => dif1 (difN k xs)
theorem dif1_len (xs : List Int) : (dif1 xs).length = xs.length - 1 := by simp [dif1]
theorem dif1_getD (xs : List Int) (j : Nat) (h : j < xs.length - 1) : (dif1 xs).getD j 0 = xs.getD (j + 1) 0 - xs.getD j 0 := by
  unfold dif1
  rw [List.getD_eq_getElem?_getD, List.getElem?_map, List.getElem?_range h]
  rfl
theorem difN_len (k : Nat) (xs : List Int) : (difN k xs).length = xs.length - k := by
  induction k with
  | zero => rfl
  | succ k ih => simp only [difN, dif1_len, ih]; omega
theorem dif1_take (xs : List Int) (j : Nat) (h : j + 1 < xs.length) : (dif1 xs).take (j + 1) = (dif1 xs).take j ++ [xs.getD (j + 1) 0 - xs.getD j 0] := by
  have h1 : j < (dif1 xs).length := by rw [dif1_len]; omega
  rw [List.take_succ_eq_append_getElem h1, ← getD_of h1, dif1_getD xs j (by omega)]
theorem difN_bound (xs : List Int) (h : ∀ x ∈ xs, isS x) (k : Nat) : ∀ y ∈ difN k xs, -(4294967296 * ((2 ^ k : Nat) : Int)) ≤ y ∧ y ≤ 4294967296 * ((2 ^ k : Nat) : Int) := by
  induction k with
  | zero =>
    intro y hy
    have := h y hy
    unfold isS at this
    simp
    omega
  | succ k ih =>
    intro y hy
    obtain ⟨j, _, rfl⟩ := List.mem_map.1 hy
    have hp := Nat.two_pow_pos k
    have h1 := getD_all (p := fun y => -(4294967296 * ((2 ^ k : Nat) : Int)) ≤ y ∧ y ≤ 4294967296 * ((2 ^ k : Nat) : Int)) ih (by omega) (j + 1)
    have h2 := getD_all (p := fun y => -(4294967296 * ((2 ^ k : Nat) : Int)) ≤ y ∧ y ≤ 4294967296 * ((2 ^ k : Nat) : Int)) ih (by omega) j
    rw [show 2 ^ (k + 1) = 2 ^ k + 2 ^ k by rw [Nat.pow_succ]; omega]
    generalize 2 ^ k = K at *
    omega
theorem difN_small (xs : List Int) (h : ∀ x ∈ xs, isS x) (k : Nat) (hk : k ≤ 4) : ∀ y ∈ difN k xs, -68719476736 ≤ y ∧ y ≤ 68719476736 := by
  intro y hy
  have h1 := difN_bound xs h k y hy
  have h2 := pow_le_of hk
  have h3 : (2 : Nat) ^ 4 = 16 := rfl
  generalize 2 ^ k = K at *
  omega
/-- a fixed order's residuals are the differences, so often -/
theorem res_difN (xs : List Int) (k : Nat) (hk : k ≤ 4) (hn : k ≤ xs.length) (h : ∀ x ∈ xs, isS x) : resV 4 0 (fx k) xs = difN k xs := by
  unfold resV
  rw [if_pos (resE_fx xs k hk hn h), fx_len k hk]
  refine List.ext_getElem (by rw [resT_len, difN_len]) (fun j h1 h2 => ?_)
  rw [← getD_of h1, ← getD_of h2]
  rw [resT_len] at h1
  have hT : (resT (0 : Int).toNat (fx k) xs (xs.length - k)).getD j 0 = xs.getD (k + j) 0 - tld 0 (fx k) xs (k + j) := by
    unfold resT
    rw [List.getD_eq_getElem?_getD, List.getElem?_map, List.getElem?_range h1, fx_len k hk]
    rfl
  rw [hT]
  have ht : ∀ cs at_, tld 0 cs xs at_ = dot cs xs at_ := fun cs at_ => by unfold tld; simp
  rw [ht]
  have d1 : ∀ j, j < xs.length - 1 → (difN 1 xs).getD j 0 = xs.getD (j + 1) 0 - xs.getD j 0 := fun j hj => dif1_getD xs j hj
  have d2 : ∀ j, j < xs.length - 2 → (difN 2 xs).getD j 0 = xs.getD (j + 2) 0 - 2 * xs.getD (j + 1) 0 + xs.getD j 0 := fun j hj => by
    have := dif1_getD (difN 1 xs) j (by rw [difN_len]; omega)
    rw [d1 (j + 1) (by omega), d1 j (by omega)] at this
    show (dif1 (difN 1 xs)).getD j 0 = _
    rw [this]
    have e1 : j + 1 + 1 = j + 2 := by omega
    rw [e1]
    omega
  have d3 : ∀ j, j < xs.length - 3 → (difN 3 xs).getD j 0 = xs.getD (j + 3) 0 - 3 * xs.getD (j + 2) 0 + 3 * xs.getD (j + 1) 0 - xs.getD j 0 := fun j hj => by
    have := dif1_getD (difN 2 xs) j (by rw [difN_len]; omega)
    rw [d2 (j + 1) (by omega), d2 j (by omega)] at this
    show (dif1 (difN 2 xs)).getD j 0 = _
    rw [this]
    have e1 : j + 1 + 2 = j + 3 := by omega
    have e2 : j + 1 + 1 = j + 2 := by omega
    rw [e1, e2]
    omega
  have d4 : ∀ j, j < xs.length - 4 → (difN 4 xs).getD j 0 = xs.getD (j + 4) 0 - 4 * xs.getD (j + 3) 0 + 6 * xs.getD (j + 2) 0 - 4 * xs.getD (j + 1) 0 + xs.getD j 0 := fun j hj => by
    have := dif1_getD (difN 3 xs) j (by rw [difN_len]; omega)
    rw [d3 (j + 1) (by omega), d3 j (by omega)] at this
    show (dif1 (difN 3 xs)).getD j 0 = _
    rw [this]
    have e1 : j + 1 + 3 = j + 4 := by omega
    have e2 : j + 1 + 2 = j + 3 := by omega
    have e3 : j + 1 + 1 = j + 2 := by omega
    rw [e1, e2, e3]
    omega
  match k, hk with
  | 0, _ => simp [difN, fx, dot, dotL]
  | 1, _ =>
    rw [d1 j (by omega)]
    have e1 : 1 + j = j + 1 := by omega
    have e2 : j + 1 - 1 - 0 = j := by omega
    simp [fx, dot, dotL, e1]
  | 2, _ =>
    rw [d2 j (by omega)]
    have e1 : 2 + j = j + 2 := by omega
    have e2 : j + 2 - 1 - 0 = j + 1 := by omega
    have e3 : j + 2 - 1 - 1 = j := by omega
    have : dot (fx 2) xs (j + 2) = 2 * xs.getD (j + 2 - 1 - 0) 0 + (-1 * xs.getD (j + 2 - 1 - 1) 0 + 0) := rfl
    rw [e1, this, e2, e3]
    omega
  | 3, _ =>
    rw [d3 j (by omega)]
    have e1 : 3 + j = j + 3 := by omega
    have e2 : j + 3 - 1 - 0 = j + 2 := by omega
    have e3 : j + 3 - 1 - 1 = j + 1 := by omega
    have e4 : j + 3 - 1 - 2 = j := by omega
    have : dot (fx 3) xs (j + 3) = 3 * xs.getD (j + 3 - 1 - 0) 0 + (-3 * xs.getD (j + 3 - 1 - 1) 0 + (1 * xs.getD (j + 3 - 1 - 2) 0 + 0)) := rfl
    rw [e1, this, e2, e3, e4]
    omega
  | 4, _ =>
    rw [d4 j (by omega)]
    have e1 : 4 + j = j + 4 := by omega
    have e2 : j + 4 - 1 - 0 = j + 3 := by omega
    have e3 : j + 4 - 1 - 1 = j + 2 := by omega
    have e4 : j + 4 - 1 - 2 = j + 1 := by omega
    have e5 : j + 4 - 1 - 3 = j := by omega
    have : dot (fx 4) xs (j + 4) = 4 * xs.getD (j + 4 - 1 - 0) 0 + (-6 * xs.getD (j + 4 - 1 - 1) 0 + (4 * xs.getD (j + 4 - 1 - 2) 0 + (-1 * xs.getD (j + 4 - 1 - 3) 0 + 0))) := rfl
    rw [e1, this, e2, e3, e4, e5]
    omega
end Go.Proofs.YteklfkpeaadinaaGreatDoor.K
namespace Go.Proofs.YteklfkpeaadinaaGreatDoor.K
open Go.RowKit

theorem row_isrcB {W : World} {base m : Nat} {v : Value} {xs : List Int} (h : W.ownsRow base 3 1 v m (xs.map iv)) (hm : xs.length = m) (hb : ∀ x ∈ xs, -68719476736 ≤ x ∧ x ≤ 68719476736) (hs : m ≤ 100000) : ∃ A c, v = .slice A m c ∧ ISrc W (.slice A m c) xs := by
  rcases Nat.eq_zero_or_pos m with h0 | h0
  · obtain ⟨A, c, e⟩ := owns_slice h
    subst h0
    have : xs = [] := List.length_eq_zero_iff.1 hm
    subst this
    exact ⟨A, c, e, ⟨A, c, rfl, Nat.zero_le _, fun i hi => by simp at hi⟩, by simp, by simp⟩
  · obtain ⟨g, c, e, _⟩ := row_form h h0
    subst e
    exact ⟨_, _, rfl, isrc_row h rfl (fun x hx => by have := hb x hx; omega) (by omega)⟩
/-- what Differ answers -/
def DifR (w : World) (k : Nat) (xs : List Int) (e : Ending) (w' : World) : Prop :=
  (∃ A c, e = .returned (.slice A (xs.length - k) c) ∧ ISrc w' (.slice A (xs.length - k) c) (difN k xs)) ∧ Only Nix w w'
def DfO (w : World) (K : Nat) (xs : List Int) (s5 s6 : Value) (wr : World) : Prop :=
  ∃ i A c, i ≤ K ∧ s6 = iv i ∧ s5 = .slice A (xs.length - i) c ∧ ISrc wr (.slice A (xs.length - i) c) (difN i xs) ∧ Only Nix w wr
def DfI (W0 : World) (ys : List Int) (s7 s8 : Value) (wr : World) : Prop :=
  ∃ j A c, j ≤ ys.length - 1 ∧ s8 = iv (j + 1 : Nat) ∧ s7 = .slice A j c ∧ wr.ownsRow W0.heap.size 3 1 (.slice A j c) j (((dif1 ys).take j).map iv) ∧ Only Nix W0 wr
set_option maxRecDepth 100000 in
set_option maxHeartbeats 4000000 in
theorem differ_any {w : World} (K : Nat) (hK4 : K ≤ 4) (A : Option Addr) (n c : Nat) (xs : List Int) (hxs : ISrc w (.slice A n c) xs) (hn : n ≤ 1000) (hS : ∀ x ∈ xs, isS x) :
    Calls Tryz.prog 60 #[iv K, .slice A n c] w fun e w' => DifR w K xs e w' := by
  have hxl := hxs.len
  have HX := Lib.hid hxs
  have Hxl := Lib.hid hxl
  have HS := Lib.hid hS
  clear hxs hxl hS
  go_enter Tryz.func60, Tryz.ntmps60
  go_wp2_with (at_builtin; refine wpList_append_ints rfl (.tmp 9) (.tmp 10) rfl w.heap.size (.slice none 0 0) 0 [] rfl ?ownA A n c xs rfl ?srcA ?nA ?baseA ?restA)
  case ownA => exact World.ownsRow_nil _ _ _ _
  case srcA => exact HX.out
  case nA => omega
  case baseA => exact Nat.le_refl _
  case restA =>
    intro v' w1 h1 h2 _
    have o1 : Only Nix w w1 := (Only.refl Nix w).grown h2 (fun k e => by cases e)
    obtain ⟨A1, c1, e1, hs1⟩ := row_isrcB h1 Hxl.out.symm (fun x hx => by have := HS.out x hx; unfold isS at this; omega) (by omega)
    subst e1
    have HO1 := Lib.hid o1
    have HI1 := Lib.hid hs1
    clear h1 h2 o1 hs1
    go_wp2
    go_loopw [5, 6] (fun s5 s6 wr => DfO w K xs s5 s6 wr) (fun _ s6 _ => K - (intOf s6).toNat)
    case atStart => exact ⟨0, A1, c1, Nat.zero_le _, rfl, by rw [Nat.sub_zero, ← Hxl.out], by rw [Nat.sub_zero, ← Hxl.out]; exact HI1.out, HO1.out⟩
    case round =>
      obtain ⟨i, A2, co, hi, rfl, rfl, hI2, hO⟩ := hrel
      by_cases hlt : i < K
      · have hlti : (i : Int) < (K : Int) := by omega
        obtain ⟨m, hm⟩ : ∃ m, xs.length - i = m := ⟨_, rfl⟩
        rw [hm] at hI2 ⊢
        have hml : (difN i xs).length = m := by rw [difN_len, hm]
        have hmb : m ≤ 1000 := by have := Hxl.out; omega
        have hbd := difN_small xs HS.out i (by omega)
        have HD : Hid (dif1 (difN i xs) = difN (i + 1) xs) := Lib.hid rfl
        have HB1 := Lib.hid (difN_small xs HS.out (i + 1) (by omega))
        generalize difN i xs = ys at *
        have HI2 := Lib.hid hI2
        have HO := Lib.hid hO
        have Hm := Lib.hid hm
        have Hml := Lib.hid hml
        have HBD := Lib.hid hbd
        clear hI2 hO hm hml hbd
        obtain ⟨W0, hW0⟩ : ∃ W0, W0 = wr := ⟨_, rfl⟩
        subst hW0
        go_wp2
        go_loopw [7, 8] (fun s7 s8 wz => DfI W0 ys s7 s8 wz) (fun _ s8 _ => m - (intOf s8).toNat)
        case atStart => exact ⟨0, none, 0, Nat.zero_le _, rfl, rfl, World.ownsRow_nil _ _ _ _, Only.refl _ _⟩
        case round =>
          obtain ⟨j, A7, c7, hj, rfl, rfl, hown, hOw⟩ := hrel
          rw [Hml.out] at hj
          have HW := Lib.hid hOw
          have HOw := Lib.hid hown
          obtain ⟨k, hk⟩ : ∃ k, j + 1 = k := ⟨_, rfl⟩
          rw [hk]
          have hkj : (k : Int) - 1 = (j : Int) := by omega
          by_cases hlt2 : k < m
          · have hlt2i : (k : Int) < (m : Int) := by omega
            have hky : k < ys.length := by rw [Hml.out]; exact hlt2
            have hjy : j < ys.length := by rw [Hml.out]; omega
            obtain ⟨ad, rfl, hx⟩ := (HI2.out.nix hOw).at_ hky
            obtain ⟨ad', e9, hy⟩ := (HI2.out.nix hOw).at_ hjy
            injection e9 with e9
            subst e9
            have hbx := HBD.out _ (List.getElem_mem hky)
            have hby := HBD.out _ (List.getElem_mem hjy)
            have hT := dif1_take ys j (by omega)
            rw [hk, getD_of hky, getD_of hjy] at hT
            have HT := Lib.hid hT
            generalize ys[k] = x at *
            generalize ys[j] = y at *
            have hjm : j < m := by omega
            have Hk := Lib.hid hk
            clear hown hOw hT hky hjy
            go_wp2
            have noOut : ∀ j s, j < 14 → (([some 23, some 24, some 25, some 26, some 27, some 28, some 29, some 30, some 31, some 32, some 33, some 34, some 35, some 7] : List (Option Nat)).all fun d => d != some s) = true → ([some 23, some 24, some 25, some 26, some 27, some 28, some 29, some 30, some 31, some 32, some 33, some 34, some 35, some 7] : List (Option Nat)).getD j none ≠ some s := by
              intro j s hj ha e
              rw [List.getD_eq_getElem?_getD, List.getElem?_eq_getElem (by exact hj), Option.getD_some] at e
              have := List.all_eq_true.1 ha _ (List.getElem_mem (by exact hj))
              rw [e] at this
              simp at this
            refine region_gho (by kernel_rfl) (fun k0 => ([some 23, some 24, some 25, some 26, some 27, some 28, some 29, some 30, some 31, some 32, some 33, some 34, some 35, some 7] : List (Option Nat)).getD k0 none) (fun k0 => ([some (.slice A7 j c7), some (.slice (some ad) m co), some (iv k), some (.pointer (some (ad.add k))), some (iv x), some (.slice (some ad) m co), some (iv k), some (iv j), some (.pointer (some (ad.add j))), some (iv y), some (iv (x - y)), none, none, none] : List (Option Value)).getD k0 none) (RrW W0 wr W0.heap.size 12 (.slice A7 j c7) j (((dif1 ys).take j).map iv) (x - y)) 38 14 rfl (by kernel_rfl) (by kernel_rfl) rfl (by kernel_rfl) (by kernel_rfl) ⟨fun _ => (Only.refl Nix wr).drew, (fun e => by cases e), (fun e => by cases e), (fun e => by cases e)⟩ ?stepsR (fun vs => [(23, vs 0), (24, vs 1), (25, vs 2), (26, vs 3), (27, vs 4), (28, vs 5), (29, vs 6), (30, vs 7), (31, vs 8), (32, vs 9), (33, vs 10), (34, vs 11), (35, vs 12), (7, vs 13)]) (fun vs => rfl) ?doneR
            case stepsR =>
              refine ⟨?_, ?_, ?_, ?_, ?_, ?_, ?_, ?_, ?_, ?_, ?_, ?_, ?_, ?_, trivial⟩
              · intro L vs A' u hW hL0 hnd K' hK
                have hns : L 13 = false := notYet hW.closed (j := 13) (by rfl) (k := 0) (by kernel_rfl) hL0
                have r7 : A'.tmps[7]? = some (.slice A7 j c7) := (hW.fresh 13 7 (by decide) hns rfl).trans rfl
                go_simp
                exact hK _ _ (fun v0 e => by cases e; rfl) (hW.wi.step (Only.refl _ _) (by decide))
              · intro L vs A' u hW hL0 hnd K' hK
                have r5 : A'.tmps[5]? = some (.slice (some ad) m co) := (hW.out 5 (fun j hj => noOut j 5 hj (by kernel_rfl))).trans rfl
                go_simp
                exact hK _ _ (fun v0 e => by cases e; rfl) (hW.wi.step (Only.refl _ _) (by decide))
              · intro L vs A' u hW hL0 hnd K' hK
                have r8 : A'.tmps[8]? = some (iv k) := (hW.out 8 (fun j hj => noOut j 8 hj (by kernel_rfl))).trans rfl
                go_simp
                exact hK _ _ (fun v0 e => by cases e; rfl) (hW.wi.step (Only.refl _ _) (by decide))
              · intro L vs A' u hW hL0 hnd K' hK
                have r24 : A'.tmps[24]? = some (.slice (some ad) m co) := by
                  have h := hW.val 1 24 (by decide) (hnd 1 (by kernel_rfl)) rfl
                  rw [hW.known 1 _ (hnd 1 (by kernel_rfl)) rfl] at h
                  exact h
                have r25 : A'.tmps[25]? = some (iv k) := by
                  have h := hW.val 2 25 (by decide) (hnd 2 (by kernel_rfl)) rfl
                  rw [hW.known 2 _ (hnd 2 (by kernel_rfl)) rfl] at h
                  exact h
                go_simp
                exact hK _ _ (fun v0 e => by cases e; rfl) (hW.wi.step (Only.refl _ _) (by decide))
              · intro L vs A' u hW hL0 hnd K' hK
                have n10 : L 10 = false := notYet hW.closed (j := 10) (by rfl) (k := 4) (by kernel_rfl) hL0
                have n11 : L 11 = false := notYet hW.closed (j := 11) (by rfl) (k := 10) (by kernel_rfl) n10
                have n12 : L 12 = false := notYet hW.closed (j := 12) (by rfl) (k := 11) (by kernel_rfl) n11
                have r26 : A'.tmps[26]? = some (.pointer (some (ad.add k))) := by
                  have h := hW.val 3 26 (by decide) (hnd 3 (by kernel_rfl)) rfl
                  rw [hW.known 3 _ (hnd 3 (by kernel_rfl)) rfl] at h
                  exact h
                have hc := cell_keep (hW.wi.only n12) hx
                go_simp
                exact hK _ _ (fun v0 e => by cases e; rfl) (hW.wi.step (Only.refl _ _) (by decide))
              · intro L vs A' u hW hL0 hnd K' hK
                have r5 : A'.tmps[5]? = some (.slice (some ad) m co) := (hW.out 5 (fun j hj => noOut j 5 hj (by kernel_rfl))).trans rfl
                go_simp
                exact hK _ _ (fun v0 e => by cases e; rfl) (hW.wi.step (Only.refl _ _) (by decide))
              · intro L vs A' u hW hL0 hnd K' hK
                have r8 : A'.tmps[8]? = some (iv k) := (hW.out 8 (fun j hj => noOut j 8 hj (by kernel_rfl))).trans rfl
                go_simp
                exact hK _ _ (fun v0 e => by cases e; rfl) (hW.wi.step (Only.refl _ _) (by decide))
              · intro L vs A' u hW hL0 hnd K' hK
                have r29 : A'.tmps[29]? = some (iv k) := by
                  have h := hW.val 6 29 (by decide) (hnd 6 (by kernel_rfl)) rfl
                  rw [hW.known 6 _ (hnd 6 (by kernel_rfl)) rfl] at h
                  exact h
                go_simp
                rw [w64k (j : Int) (by omega) (by omega)]
                exact hK _ _ (fun v0 e => by cases e; rfl) (hW.wi.step (Only.refl _ _) (by decide))
              · intro L vs A' u hW hL0 hnd K' hK
                have r28 : A'.tmps[28]? = some (.slice (some ad) m co) := by
                  have h := hW.val 5 28 (by decide) (hnd 5 (by kernel_rfl)) rfl
                  rw [hW.known 5 _ (hnd 5 (by kernel_rfl)) rfl] at h
                  exact h
                have r30 : A'.tmps[30]? = some (iv j) := by
                  have h := hW.val 7 30 (by decide) (hnd 7 (by kernel_rfl)) rfl
                  rw [hW.known 7 _ (hnd 7 (by kernel_rfl)) rfl] at h
                  exact h
                go_simp
                exact hK _ _ (fun v0 e => by cases e; rfl) (hW.wi.step (Only.refl _ _) (by decide))
              · intro L vs A' u hW hL0 hnd K' hK
                have n10 : L 10 = false := notYet hW.closed (j := 10) (by rfl) (k := 9) (by kernel_rfl) hL0
                have n11 : L 11 = false := notYet hW.closed (j := 11) (by rfl) (k := 10) (by kernel_rfl) n10
                have n12 : L 12 = false := notYet hW.closed (j := 12) (by rfl) (k := 11) (by kernel_rfl) n11
                have r31 : A'.tmps[31]? = some (.pointer (some (ad.add j))) := by
                  have h := hW.val 8 31 (by decide) (hnd 8 (by kernel_rfl)) rfl
                  rw [hW.known 8 _ (hnd 8 (by kernel_rfl)) rfl] at h
                  exact h
                have hc := cell_keep (hW.wi.only n12) hy
                go_simp
                exact hK _ _ (fun v0 e => by cases e; rfl) (hW.wi.step (Only.refl _ _) (by decide))
              · intro L vs A' u hW hL0 hnd K' hK
                have r27 : A'.tmps[27]? = some (iv x) := by
                  have h := hW.val 4 27 (by decide) (hnd 4 (by kernel_rfl)) rfl
                  rw [hW.known 4 _ (hnd 4 (by kernel_rfl)) rfl] at h
                  exact h
                have r32 : A'.tmps[32]? = some (iv y) := by
                  have h := hW.val 9 32 (by decide) (hnd 9 (by kernel_rfl)) rfl
                  rw [hW.known 9 _ (hnd 9 (by kernel_rfl)) rfl] at h
                  exact h
                go_simp
                rw [w64k (x - y) (by omega) (by omega)]
                exact hK _ _ (fun v0 e => by cases e; rfl) (hW.wi.step (Only.refl _ _) (by decide))
              · intro L vs A' u hW hL0 hnd K' hK
                have n12 : L 12 = false := notYet hW.closed (j := 12) (by rfl) (k := 11) (by kernel_rfl) hL0
                have r33 : A'.tmps[33]? = some (iv (x - y)) := by
                  have h := hW.val 10 33 (by decide) (hnd 10 (by kernel_rfl)) rfl
                  rw [hW.known 10 _ (hnd 10 (by kernel_rfl)) rfl] at h
                  exact h
                go_simp
                exact hK _ _ (fun v0 e => by cases e) (hW.wi.lay n12 (by decide) rfl rfl)
              · intro L vs A' u hW hL0 hnd K' hK
                have n13 : L 13 = false := notYet hW.closed (j := 13) (by rfl) (k := 12) (by kernel_rfl) hL0
                have r23 : A'.tmps[23]? = some (.slice A7 j c7) := by
                  have h := hW.val 0 23 (by decide) (hnd 0 (by kernel_rfl)) rfl
                  rw [hW.known 0 _ (hnd 0 (by kernel_rfl)) rfl] at h
                  exact h
                have r34 : A'.tmps[34]? = some (vs 11) := hW.val 11 34 (by decide) (hnd 11 (by kernel_rfl)) rfl
                obtain ⟨H, h5, h6⟩ := hW.wi.arg (hnd 11 (by kernel_rfl))
                rw [h5] at r34
                refine step_append_one rfl (.tmp 23) (.tmp 34) rfl W0.heap.size (.slice A7 j c7) j (((dif1 ys).take j).map iv) (by simp [Act.eval, r23]) (owns_only HOw.out (hW.wi.only hL0) (fun _ _ e => e)) H (x - y) (by simp [Act.eval, r34]) (h6 hL0) (by omega) ?_ ?_
                · exact Nat.le_trans HW.out.size (hW.wi.only hL0).size
                · intro g cap u' k1 k2 k3
                  exact hK _ _ (fun v0 e => by cases e) (hW.wi.app hL0 n13 HW.out HOw.out (Nat.le_refl _) g cap k1 k2 k3 (by decide) rfl rfl)
              · intro L vs A' u hW hL0 hnd K' hK
                have r35 : A'.tmps[35]? = some (vs 12) := hW.val 12 35 (by decide) (hnd 12 (by kernel_rfl)) rfl
                go_simp
                exact hK _ _ (fun v0 e => by cases e) (hW.wi.put rfl rfl (hnd 12 (by kernel_rfl)))
            case doneR =>
              intro L vs u hWI hkn hall
              obtain ⟨⟨g, cap, e12, hg, hrow⟩, hW1, hWr⟩ := hWI.done (hall 12 (by decide))
              have e13 := hWI.same (hall 13 (by decide))
              rw [e12] at e13
              have HF := Lib.hid (And.intro hrow hW1)
              clear hWI hkn hall noOut hrow hW1 hWr hg
              simp only [putV, List.foldl_cons, List.foldl_nil, e13, List.setIfInBounds_toArray, List.set_cons_zero, List.set_cons_succ]
              clear e12 e13
              go_wp2
              go_roundw
              case rel => exact ⟨j + 1, _, _, by rw [Hml.out]; omega, by rw [Hk.out]; go_num, rfl, by rw [Hk.out, HT.out, List.map_append, ← Hk.out]; exact HF.out.1, HF.out.2⟩
              case measure => simp [intOf]; omega
          · have hlt2i : ¬ (k : Int) < (m : Int) := by omega
            have hjm : j = m - 1 := by omega
            have hT : (dif1 ys).take j = dif1 ys := List.take_of_length_le (by rw [dif1_len, Hml.out, hjm]; exact Nat.le_refl _)
            rw [hT, HD.out] at hown
            have hjl : (difN (i + 1) xs).length = j := by rw [difN_len, hjm]; have := Hm.out; omega
            obtain ⟨A8, c8, e8, hI8⟩ := row_isrcB hown hjl HB1.out (by omega)
            injection e8 with eA _ ec
            subst eA ec
            have hji : xs.length - (i + 1) = j := by have := Hm.out; omega
            have HF := Lib.hid (And.intro hI8 (HO.out.trans hOw))
            have Hji := Lib.hid hji
            clear hown hOw hT hjl hI8 hji
            go_wp2
            go_roundw
            case rel => exact ⟨i + 1, A7, c7, hlt, by go_num, by rw [Hji.out], by rw [Hji.out]; exact HF.out.1, HF.out.2⟩
            case measure => simp [intOf]; omega
      · obtain rfl : i = K := by omega
        have HFin : Hid (DifR w i xs (.returned (.slice A2 (xs.length - i) co)) wr) := Lib.hid ⟨⟨A2, co, rfl, hI2⟩, hO⟩
        clear hI2 hO
        go_wp2
        go_ret
        exact HFin.out
end Go.Proofs.YteklfkpeaadinaaGreatDoor.K
namespace Go.Proofs.YteklfkpeaadinaaGreatDoor.K
open Go.RowKit

/-- what the document has as the least so far -/
def lst (f : Nat → Nat) (k : Nat) : Int := if k = 0 then (-1 : Int) else (((bst f k).2 : Nat) : Int)
theorem lf_dif (xs : List Int) (k : Nat) (hk : k ≤ 4) (hn : k ≤ xs.length) (h : ∀ x ∈ xs, isS x) : lf xs k = mg (difN k xs) := by unfold lf; rw [res_difN xs k hk hn h]
set_option maxRecDepth 100000 in
set_option maxHeartbeats 4000000 in
theorem bestRef_any {w : World} (A : Option Addr) (n c : Nat) (xs : List Int) (hxs : ISrc w (.slice A n c) xs) (hn : n ≤ 1000) :
    Calls Tryz.prog 27 #[.slice A n c] w fun e w' => e = .returned (iv (bestV xs : Nat)) ∧ Only Nix w w' := by
  have hxl := hxs.len
  have HX := Lib.hid hxs
  have Hxl := Lib.hid hxl
  clear hxs hxl
  go_enter Tryz.func27, Tryz.ntmps27
  go_wp2
  go_loopw [3] (fun s3 wr => ∃ j : Nat, j ≤ n ∧ s3 = iv j ∧ (∀ x ∈ xs.take j, isS x) ∧ Only Nix w wr) (fun s3 _ => n - (intOf s3).toNat)
  case atStart => exact ⟨0, Nat.zero_le _, rfl, by simp, Only.refl _ _⟩
  case round =>
    obtain ⟨j, hj, rfl, hal, hO⟩ := hrel
    have HAl := Lib.hid hal
    have HO := Lib.hid hO
    clear hal
    by_cases hlt : j < n
    · have hltx : j < xs.length := by rw [← Hxl.out]; exact hlt
      obtain ⟨ad, rfl, hx⟩ := (HX.out.nix hO).at_ hltx
      have HM := Lib.hid (List.getElem_mem hltx)
      have HE := Lib.hid (List.take_succ_eq_append_getElem hltx)
      have hlti : (j : Int) < (n : Int) := by omega
      have HI := Lib.hid (may_any wr xs[j])
      generalize xs[j] = x at *
      clear hltx hO
      by_cases hS : isS x
      · rw [decide_eq_true hS] at HI
        have HS := Lib.hid hS
        clear hS
        go_wp2_with fail
        refine (HI.out).mono ?_
        rintro e w9 ⟨rfl, rfl⟩
        go_wp2
        go_roundw
        case rel =>
          refine ⟨j + 1, hlt, by go_num, fun y hy => ?_, HO.out⟩
          rw [HE.out] at hy
          rcases List.mem_append.1 hy with hy | hy
          · exact HAl.out y hy
          · simp at hy; subst hy; exact HS.out
        case measure => simp [intOf]; omega
      · rw [decide_eq_false hS] at HI
        have HV : Hid (bestV xs = 0) := Lib.hid (if_neg (fun h => hS (h x HM.out)))
        clear hS
        go_wp2_with fail
        refine (HI.out).mono ?_
        rintro e w9 ⟨rfl, rfl⟩
        go_wp2
        go_ret
        exact ⟨by rw [HV.out] <;> rfl, HO.out⟩
    · obtain rfl : j = n := by omega
      have hS : ∀ x ∈ xs, isS x := fun x hx => HAl.out x (by rw [List.take_of_length_le (by rw [← Hxl.out]; exact Nat.le_refl _)]; exact hx)
      have HS := Lib.hid hS
      have HV : Hid (bestV xs = (bst (lf xs) (min j 5)).1) := Lib.hid (by unfold bestV; rw [if_pos hS, ← Hxl.out])
      clear hS hO HAl
      go_wp2
      go_loopw [4, 5, 6] (fun s4 s5 s6 wy => ∃ k : Nat, k ≤ min j 5 ∧ s6 = iv k ∧ s4 = iv ((bst (lf xs) k).1 : Nat) ∧ s5 = iv (lst (lf xs) k) ∧ Only Nix w wy) (fun _ _ s6 _ => 5 - (intOf s6).toNat)
      case atStart => exact ⟨0, Nat.zero_le _, rfl, rfl, rfl, HO.out⟩
      case round =>
        obtain ⟨k, hk, rfl, rfl, rfl, hO⟩ := hrel
        have HOk := Lib.hid hO
        have hk5 : k ≤ 5 := by omega
        have hkn : k ≤ j := by omega
        clear hO
        by_cases hlt2 : k < 5 ∧ k < j
        · have hl5 : (k : Int) < 5 := by omega
          have hlj : (k : Int) < (j : Int) := by omega
          have hb := bst_bound xs (by rw [← Hxl.out]; exact hn) k
          have HB : Hid (bst (lf xs) (k + 1) = if k = 0 ∨ lf xs k < (bst (lf xs) k).2 then (k, lf xs k) else bst (lf xs) k) := Lib.hid rfl
          have HL : Hid (lst (lf xs) (k + 1) = ((bst (lf xs) (k + 1)).2 : Nat)) := Lib.hid (by unfold lst; rw [if_neg (by omega)])
          have HL0 : Hid (lst (lf xs) k = if k = 0 then (-1 : Int) else (((bst (lf xs) k).2 : Nat) : Int)) := Lib.hid rfl
          have HLF := Lib.hid (lf_dif xs k (by omega) (by rw [← Hxl.out]; omega) HS.out)
          have HDf := Lib.hid (differ_any (w := wr) k (by omega) A j c xs (HX.out.nix HOk.out) hn HS.out)
          have hdl := difN_len k xs
          rw [← Hxl.out] at hdl
          have HBD := Lib.hid (difN_small xs HS.out k (by omega))
          generalize bst (lf xs) k = bl at *
          obtain ⟨b, l⟩ := bl
          generalize lst (lf xs) k = ls at *
          have hb2 : l ≤ 4503599627370496000 := hb.1
          clear hb
          dsimp only at HB HL0
          have hlt3 := hlt2
          clear hlt2
          go_wp2_with fail
          refine (HDf.out).mono ?_
          rintro e w1 ⟨⟨A3, c3, rfl, hI3⟩, o3⟩
          rw [← Hxl.out] at hI3 ⊢
          have HO3 := Lib.hid (HOk.out.trans o3)
          obtain ⟨m, hm⟩ : ∃ m, j - k = m := ⟨_, rfl⟩
          rw [hm] at hI3 hdl ⊢
          have hm1 : m ≤ 1000 := by omega
          generalize difN k xs = ds at *
          have HI3 := Lib.hid hI3
          have Hdl := Lib.hid hdl
          have H3 := Lib.hid hlt3
          clear o3 hI3 hdl hm HDf hlt3
          go_wp2
          go_loopw [8, 9] (fun s8 s9 wz => ∃ i : Nat, i ≤ m ∧ s9 = iv i ∧ s8 = iv (mg (ds.take i) : Nat) ∧ Only Nix w1 wz) (fun _ s9 _ => m - (intOf s9).toNat)
          case atStart => exact ⟨0, Nat.zero_le _, rfl, rfl, Only.refl _ _⟩
          case round =>
            obtain ⟨i, hi, rfl, rfl, hOi⟩ := hrel
            by_cases hli : i < m
            · have hlx : i < ds.length := by rw [Hdl.out]; exact hli
              obtain ⟨ad, rfl, hx⟩ := (HI3.out.nix hOi).at_ hlx
              have hbx := HBD.out _ (List.getElem_mem hlx)
              have hSn := mg_snoc (ds.take i) ds[i]
              rw [← List.take_succ_eq_append_getElem hlx] at hSn
              have HSn := Lib.hid hSn
              have hmb := mg_bound (ds.take i) (fun d hd => by have := HBD.out d (List.mem_of_mem_take hd); omega)
              have hml : (ds.take i).length ≤ 1000 := by rw [List.length_take]; omega
              have hm2 : mg (ds.take i) ≤ 4503599627370496000 := by omega
              have hlii : (i : Int) < (m : Int) := by omega
              have HOi := Lib.hid hOi
              generalize ds[i] = d at *
              generalize mg (ds.take i) = M at *
              have hmx : max d (-d) = ((d.natAbs : Nat) : Int) := by omega
              obtain ⟨q, hq⟩ : ∃ q, d.natAbs = q := ⟨_, rfl⟩
              rw [hq] at hmx HSn
              have hqb : q ≤ 68719476736 := by omega
              have hw1 : IntKind.i64.wrap (-d) = -d := w64k _ (by omega) (by omega)
              have hw2 : IntKind.i64.wrap ((M : Int) + (q : Int)) = (M : Int) + (q : Int) := w64k _ (by omega) (by omega)
              clear hq hmb hml hSn hlx hOi
              go_wp2_with fail
              go_quiet (fail)
              go_wp2
              have hmx2 : (if d < -d then -d else d) = (q : Int) := by
                rw [← hmx]
                split <;> omega
              exact ⟨⟨i + 1, hli, by go_num, by rw [HSn.out, hmx2]; go_num, HOi.out.drewN _⟩, by simp [intOf]; omega⟩
            · obtain rfl : i = m := by omega
              rw [List.take_of_length_le (by rw [Hdl.out]; exact Nat.le_refl _)]
              have HLF2 : Hid (mg ds = lf xs k) := Lib.hid HLF.out.symm
              rw [HLF2.out]
              have HO5 := Lib.hid (HO3.out.trans hOi)
              have hk1 : k + 1 ≤ min j 5 := by have := H3.out; omega
              have Hk1 := Lib.hid hk1
              clear hOi HLF HLF2 HBD hk1
              generalize lf xs k = q at *
              by_cases h0 : k = 0 ∨ q < l
              · rw [if_pos h0] at HB
                have HL1 : Hid (lst (lf xs) (k + 1) = (q : Int)) := Lib.hid (by rw [HL.out, HB.out])
                by_cases hk0 : k = 0
                · have hls := HL0.out
                  rw [if_pos hk0] at hls
                  subst hls
                  clear HL0 HL
                  go_wp2
                  go_roundw
                  case rel => exact ⟨k + 1, Hk1.out, by go_num, by rw [HB.out], by rw [HL1.out], HO5.out⟩
                  case measure => simp [intOf]; omega
                · have hls := HL0.out
                  rw [if_neg hk0] at hls
                  subst hls
                  have hql : q < l := by omega
                  have hqli : (q : Int) < (l : Int) := by omega
                  have hl0 : ¬ (l : Int) < 0 := by omega
                  clear HL0 HL
                  go_wp2
                  go_roundw
                  case rel => exact ⟨k + 1, Hk1.out, by go_num, by rw [HB.out], by rw [HL1.out], HO5.out⟩
                  case measure => simp [intOf]; omega
              · rw [if_neg h0] at HB
                have HL1 : Hid (lst (lf xs) (k + 1) = (l : Int)) := Lib.hid (by rw [HL.out, HB.out])
                have hk0 : ¬ k = 0 := fun h => h0 (.inl h)
                have hls := HL0.out
                rw [if_neg hk0] at hls
                subst hls
                have hql : ¬ q < l := fun h => h0 (.inr h)
                have hqli : ¬ (q : Int) < (l : Int) := by omega
                have hl0 : ¬ (l : Int) < 0 := by omega
                clear h0 HL0 HL
                go_wp2
                go_roundw
                case rel => exact ⟨k + 1, Hk1.out, by go_num, by rw [HB.out], by rw [HL1.out], HO5.out⟩
                case measure => simp [intOf]; omega
        · have HE : Hid (k = min j 5) := Lib.hid (by omega)
          by_cases hl5 : k < 5
          · have hl5i : (k : Int) < 5 := by omega
            have hlji : ¬ (k : Int) < (j : Int) := by omega
            clear hlt2
            go_wp2
            go_ret
            exact ⟨by rw [HV.out, ← HE.out] <;> rfl, HOk.out⟩
          · have hl5i : ¬ (k : Int) < 5 := by omega
            clear hlt2
            go_wp2
            go_ret
            exact ⟨by rw [HV.out, ← HE.out] <;> rfl, HOk.out⟩
end Go.Proofs.YteklfkpeaadinaaGreatDoor.K
