/-
  PredictAdds: plain mathematics, and a region.
-/
import Derived.Test.YtgjnhbfdbiibdaaKLTells
import Derived.Test.YtgjnhbfdbiibdaaKRstR
namespace Go.Proofs.Ytgjnhbfdbiibdaa
open Go.RowKit

/-- the sums of two lists' numbers -/
def add2 (a b : List Int) (k : Nat) : List Int := (List.range k).map fun i => a.getD i 0 + b.getD i 0
theorem add2_len (a b : List Int) (k : Nat) : (add2 a b k).length = k := by simp [add2]
theorem add2_snoc (a b : List Int) (k : Nat) : add2 a b (k + 1) = add2 a b k ++ [a.getD k 0 + b.getD k 0] := by simp [add2, List.range_succ]
theorem add2_getD (a b : List Int) (k i : Nat) (h : i < k) : (add2 a b k).getD i 0 = a.getD i 0 + b.getD i 0 := by
  unfold add2
  rw [List.getD_eq_getElem?_getD, List.getElem?_map, List.getElem?_range h]
  rfl
/-- within 2^30 either way -/
def sm30 (x : Int) : Prop := -1073741824 ≤ x ∧ x ≤ 1073741824
theorem sum_add : ∀ (ks : List Nat) (f g : Nat → Int), (ks.map fun k => f k + g k).sum = (ks.map f).sum + (ks.map g).sum
  | [], _, _ => rfl
  | k :: ks, f, g => by
    have := sum_add ks f g
    simp only [List.map_cons, List.sum_cons, this]
    omega
theorem dot_add (cs a b : List Int) (n at_ : Nat) (ha : cs.length ≤ at_) (hn : at_ ≤ n) : dot cs (add2 a b n) at_ = dot cs a at_ + dot cs b at_ := by
  unfold dot dotL
  rw [← sum_add]
  refine congrArg List.sum (List.map_congr_left (fun k hk => ?_))
  have hk' := List.mem_range.1 hk
  rw [add2_getD a b n (at_ - 1 - k) (by omega), Int.mul_add]
/-- a prediction without a shift adds up -/
theorem resT_add (cs a b : List Int) (n i : Nat) (h : cs.length + i < n) (m : Nat) (hi : i < m) : (resT 0 cs (add2 a b n) m).getD i 0 = (resT 0 cs a m).getD i 0 + (resT 0 cs b m).getD i 0 := by
  have key : ∀ xs : List Int, (resT 0 cs xs m).getD i 0 = xs.getD (cs.length + i) 0 - dot cs xs (cs.length + i) := fun xs => by
    unfold resT tld
    rw [List.getD_eq_getElem?_getD, List.getElem?_map, List.getElem?_range hi]
    simp
  rw [key, key, key, add2_getD a b n _ h, dot_add cs a b n _ (by omega) (by omega)]
  omega
/-- what is wrong with samples that may all be -/
def resS (P : Int) (cs : List Int) (n : Nat) : Int := if okL P 0 cs then (if n < cs.length then 1 else 0) else 10
theorem resE_small (P : Int) (cs xs : List Int) (h : ∀ x ∈ xs, isS x) : resE P 0 cs xs = resS P cs xs.length := by
  unfold resE resS
  by_cases h1 : okL P 0 cs
  · rw [if_pos h1, if_pos h1]
    by_cases h2 : xs.length < cs.length
    · rw [if_pos h2, if_pos h2]
    · rw [if_neg h2, if_neg h2, if_pos h]
  · rw [if_neg h1, if_neg h1]
def resM (P : Int) (cs : List Int) (n : Nat) : Nat := if resS P cs n = 0 then n - cs.length else 0
theorem resV_small (P : Int) (cs xs : List Int) (h : ∀ x ∈ xs, isS x) : (resV P 0 cs xs).length = resM P cs xs.length := by
  unfold resV resM
  rw [resE_small P cs xs h]
  by_cases h1 : resS P cs xs.length = 0
  · rw [if_pos h1, if_pos h1, resT_len]
  · rw [if_neg h1, if_neg h1]; rfl
theorem sm30_take {l : List Int} {n : Nat} (h : ∀ i, i < n → sm30 (l.getD i 0)) : ∀ x ∈ l.take n, isS x := by
  intro x hx
  rw [List.mem_take_iff_getElem] at hx
  obtain ⟨i, hi, rfl⟩ := hx
  have := h i (by omega)
  rw [getD_of (by omega)] at this
  unfold sm30 at this
  unfold isS
  omega
theorem sm30_add {a b : List Int} {n : Nat} (ha : ∀ i, i < n → sm30 (a.getD i 0)) (hb : ∀ i, i < n → sm30 (b.getD i 0)) : ∀ x ∈ add2 a b n, isS x := by
  intro x hx
  obtain ⟨i, hi, rfl⟩ := List.mem_map.1 hx
  have hi' := List.mem_range.1 hi
  have h1 := ha i hi'
  have h2 := hb i hi'
  unfold sm30 at h1 h2
  unfold isS
  omega
theorem adds_at (P : Int) (cs a b : List Int) (n : Nat) (ha : ∀ i, i < n → sm30 (a.getD i 0)) (hb : ∀ i, i < n → sm30 (b.getD i 0)) (hla : n ≤ a.length) (hlb : n ≤ b.length) (i : Nat) (hi : i < resM P cs n) :
    (resV P 0 cs (add2 a b n)).getD i 0 = (resV P 0 cs (a.take n)).getD i 0 + (resV P 0 cs (b.take n)).getD i 0 := by
  have la : (a.take n).length = n := by rw [List.length_take]; omega
  have lb : (b.take n).length = n := by rw [List.length_take]; omega
  have e0 : resS P cs n = 0 := by
    by_cases h : resS P cs n = 0
    · exact h
    · unfold resM at hi
      rw [if_neg h] at hi
      omega
  have hm : resM P cs n = n - cs.length := if_pos e0
  rw [hm] at hi
  have hv : ∀ xs : List Int, xs.length = n → (∀ x ∈ xs, isS x) → resV P 0 cs xs = resT 0 cs xs (n - cs.length) := fun xs hl hs => by
    unfold resV
    rw [resE_small P cs xs hs, hl, if_pos e0]
    rfl
  rw [hv _ (add2_len a b n) (sm30_add ha hb), hv _ la (sm30_take ha), hv _ lb (sm30_take hb)]
  have hc : add2 a b n = add2 (a.take n) (b.take n) n := by
    unfold add2
    refine List.map_congr_left (fun k hk => ?_)
    have := List.mem_range.1 hk
    rw [take_getD _ _ _ this, take_getD _ _ _ this]
  rw [hc]
  exact resT_add cs (a.take n) (b.take n) n i (by omega) _ hi
/-- Residual is asked within a region that draws its order: ops 4 to 9 -/
structure AdW (W0 : World) (m : Nat) (E : Int) (ds : List Int) (L : Nat → Bool) (vs : Nat → Value) (u : World) : Prop where
  only : Only Nix W0 u
  got : L 4 = true → ∃ A c, vs 4 = .tuple #[.slice A m c, iv E] ∧ ISrc u (.slice A m c) ds ∧ (L 5 = true → vs 5 = .tuple #[.slice A m c, iv E]) ∧ (L 6 = true → vs 6 = .slice A m c) ∧ (L 7 = true → vs 7 = iv E) ∧ (L 8 = true → vs 8 = .slice A m c) ∧ (L 9 = true → vs 9 = iv E)
section
variable {W0 u u' : World} {m : Nat} {E : Int} {ds : List Int} {L : Nat → Bool} {vs : Nat → Value} {i : Nat} {x : Value}
theorem AdW.low (h : AdW W0 m E ds L vs u) (hL : L 4 = false) (hi : i < 4) : AdW W0 m E ds (andOne L i) (andV vs i x) u :=
  ⟨h.only, fun e => by rw [andOne_ne (by omega), hL] at e; cases e⟩
theorem AdW.ask (h : AdW W0 m E ds L vs u) (ho : Only Nix u u') (l5 : L 5 = false) (l6 : L 6 = false) (l7 : L 7 = false) (l8 : L 8 = false) (l9 : L 9 = false) (A : Option Addr) (c : Nat) (hx : x = .tuple #[.slice A m c, iv E]) (hI : ISrc u' (.slice A m c) ds) : AdW W0 m E ds (andOne L 4) (andV vs 4 x) u' := by
  refine ⟨h.only.trans ho, fun _ => ⟨A, c, by simp [andV, hx], hI, ?_, ?_, ?_, ?_, ?_⟩⟩
  · intro e; rw [andOne_ne (by decide), l5] at e; cases e
  · intro e; rw [andOne_ne (by decide), l6] at e; cases e
  · intro e; rw [andOne_ne (by decide), l7] at e; cases e
  · intro e; rw [andOne_ne (by decide), l8] at e; cases e
  · intro e; rw [andOne_ne (by decide), l9] at e; cases e
theorem AdW.s5 (h : AdW W0 m E ds L vs u) (hx : x = vs 4) : AdW W0 m E ds (andOne L 5) (andV vs 5 x) u :=
  ⟨h.only, fun e => by
    rw [andOne_ne (by decide)] at e
    obtain ⟨A, c, h4, hI, h5, h6, h7, h8, h9⟩ := h.got e
    refine ⟨A, c, by rw [andV_ne (by decide)]; exact h4, hI, fun _ => by simp [andV, hx, h4], ?_, ?_, ?_, ?_⟩ <;> intro e2 <;> rw [andOne_ne (by decide)] at e2 <;> rw [andV_ne (by decide)]
    · exact h6 e2
    · exact h7 e2
    · exact h8 e2
    · exact h9 e2⟩
theorem AdW.s6 (h : AdW W0 m E ds L vs u) (hx : ∀ A c, vs 4 = .tuple #[.slice A m c, iv E] → x = .slice A m c) : AdW W0 m E ds (andOne L 6) (andV vs 6 x) u :=
  ⟨h.only, fun e => by
    rw [andOne_ne (by decide)] at e
    obtain ⟨A, c, h4, hI, h5, h6, h7, h8, h9⟩ := h.got e
    refine ⟨A, c, by rw [andV_ne (by decide)]; exact h4, hI, fun e2 => ?_, fun _ => by simp [andV, hx A c h4], fun e2 => ?_, fun e2 => ?_, fun e2 => ?_⟩ <;> rw [andOne_ne (by decide)] at e2 <;> rw [andV_ne (by decide)]
    · exact h5 e2
    · exact h7 e2
    · exact h8 e2
    · exact h9 e2⟩
theorem AdW.s7 (h : AdW W0 m E ds L vs u) (hx : x = iv E) : AdW W0 m E ds (andOne L 7) (andV vs 7 x) u :=
  ⟨h.only, fun e => by
    rw [andOne_ne (by decide)] at e
    obtain ⟨A, c, h4, hI, h5, h6, h7, h8, h9⟩ := h.got e
    refine ⟨A, c, by rw [andV_ne (by decide)]; exact h4, hI, fun e2 => ?_, fun e2 => ?_, fun _ => by simp [andV, hx], fun e2 => ?_, fun e2 => ?_⟩ <;> rw [andOne_ne (by decide)] at e2 <;> rw [andV_ne (by decide)]
    · exact h5 e2
    · exact h6 e2
    · exact h8 e2
    · exact h9 e2⟩
theorem AdW.s8 (h : AdW W0 m E ds L vs u) (hx : ∀ A c, vs 4 = .tuple #[.slice A m c, iv E] → x = .slice A m c) : AdW W0 m E ds (andOne L 8) (andV vs 8 x) u :=
  ⟨h.only, fun e => by
    rw [andOne_ne (by decide)] at e
    obtain ⟨A, c, h4, hI, h5, h6, h7, h8, h9⟩ := h.got e
    refine ⟨A, c, by rw [andV_ne (by decide)]; exact h4, hI, fun e2 => ?_, fun e2 => ?_, fun e2 => ?_, fun _ => by simp [andV, hx A c h4], fun e2 => ?_⟩ <;> rw [andOne_ne (by decide)] at e2 <;> rw [andV_ne (by decide)]
    · exact h5 e2
    · exact h6 e2
    · exact h7 e2
    · exact h9 e2⟩
theorem AdW.s9 (h : AdW W0 m E ds L vs u) (hx : x = iv E) : AdW W0 m E ds (andOne L 9) (andV vs 9 x) u :=
  ⟨h.only, fun e => by
    rw [andOne_ne (by decide)] at e
    obtain ⟨A, c, h4, hI, h5, h6, h7, h8, h9⟩ := h.got e
    refine ⟨A, c, by rw [andV_ne (by decide)]; exact h4, hI, fun e2 => ?_, fun e2 => ?_, fun e2 => ?_, fun e2 => ?_, fun _ => by simp [andV, hx]⟩ <;> rw [andOne_ne (by decide)] at e2 <;> rw [andV_ne (by decide)]
    · exact h5 e2
    · exact h6 e2
    · exact h7 e2
    · exact h8 e2⟩
end
end Go.Proofs.Ytgjnhbfdbiibdaa
