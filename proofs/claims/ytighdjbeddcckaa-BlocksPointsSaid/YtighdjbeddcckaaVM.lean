/-
  Points as the document's answer has them; two lists of such are one.
-/
import Derived.Test.YtighdjbeddcckaaVJ
import Derived.Deep.RegionLaw
import Derived.Deep.AppendLies
import Derived.Laws.StructEq
namespace Go.Proofs.Ytighdjbeddcckaa
open Go.RowKit Go.Shelf

theorem run_size_of {t : TypeId} {n : Nat} (h : (Try.prog.info? t).map (·.size) = some n) (w : World) : (sizeOf t).run Try.prog w = .ok n w := by
  cases hq : Try.prog.info? t with
  | none => simp [hq] at h
  | some i =>
    have hs : i.size = n := by simpa [hq] using h
    simp [sizeOf, typeInfo, hq, hs]
theorem part_one {t : TypeId} {xs : Array Value} {i : Nat} {v : Value} (h : xs[i]? = some v) (ht : ∀ w, (isAgg t).run Try.prog w = .ok false w) (w : World) : (part t xs i).run Try.prog w = .ok v w := by
  simp [part, ht, h]
/-- two arrays, element by element -/
theorem run_equalIn_arr {t e : TypeId} {n : Nat} (hu : Try.prog.underlying t = some (.array n e)) (hz : (Try.prog.info? e).map (·.size) = some 1) (ha : ∀ w, (isAgg e).run Try.prog w = .ok false w) (d : Nat) (L M : List Value) (q : Value → Value → Bool)
    (hl : L.length = n) (hm : M.length = n) (hq : ∀ x y, x ∈ L → y ∈ M → ∀ w, (Op.equalIn d e x y).run Try.prog w = .ok (q x y) w) (w : World) :
    (Op.equalIn (d + 1) t (.agg L.toArray) (.agg M.toArray)).run Try.prog w = .ok ((List.range' 0 n).all fun i => q (L.getD i undef) (M.getD i undef)) w := by
  have hp : ∀ i, i < n → ∀ w, (part e L.toArray i).run Try.prog w = .ok (L.getD i undef) w := fun i hi w => part_one (by simp [List.getD_eq_getElem?_getD, hl, hi]) ha w
  have hr : ∀ i, i < n → ∀ w, (part e M.toArray i).run Try.prog w = .ok (M.getD i undef) w := fun i hi w => part_one (by simp [List.getD_eq_getElem?_getD, hm, hi]) ha w
  have hqi : ∀ i, i < n → ∀ w, (Op.equalIn d e (L.getD i undef) (M.getD i undef)).run Try.prog w = .ok (q (L.getD i undef) (M.getD i undef)) w := fun i hi => hq _ _ (by simp [List.getD_eq_getElem?_getD, hl, hi]) (by simp [List.getD_eq_getElem?_getD, hm, hi])
  have hs := run_size_of hz
  unfold Op.equalIn
  simp only [Sem.run_bind, run_underlying hu, Result.andThen_ok, hs, Nat.mul_one]
  rw [Std.Legacy.Range.forIn_eq_forIn_range']
  have key : ∀ (l : List Nat), (∀ i ∈ l, i < n) → ∀ w, (forIn l ((none : Option Bool), ()) (fun i (_ : Option Bool × Unit) => do
      let a ← part e L.toArray i
      let b ← part e M.toArray i
      let c ← Op.equalIn d e a b
      if (!c) = true then pure (ForInStep.done (some false, ())) else pure (ForInStep.yield (none, ()))) : Sem (Option Bool × Unit)).run Try.prog w = .ok (if (l.all fun i => q (L.getD i undef) (M.getD i undef)) = true then none else some false, ()) w := by
    intro l
    induction l with
    | nil => intro _ w; simp
    | cons i l ih =>
      intro hl w
      have hi := hl i (List.mem_cons_self ..)
      rw [List.forIn_cons]
      simp only [Sem.run_bind, hp i hi, hr i hi, hqi i hi, Result.andThen_ok]
      cases hb : q (L.getD i undef) (M.getD i undef) with
      | false => simp only [Bool.not_false, if_true, Sem.run_pure, Result.andThen_ok, List.all_cons, hb, Bool.false_and, Bool.false_eq_true, if_false]
      | true =>
        simp only [Bool.not_true, Bool.false_eq_true, if_false, Sem.run_pure, Result.andThen_ok, List.all_cons, hb, Bool.true_and]
        exact ih (fun j hj => hl j (List.mem_cons_of_mem _ hj)) w
  rw [key _ (fun i hi => by
    have := List.mem_range'_1.1 hi
    simp at this
    omega)]
  simp only [Result.andThen_ok]
  rw [show Std.Legacy.Range.size [:n] = n by simp [Std.Legacy.Range.size]]
  cases hb : ((List.range' 0 n).all fun i => q (L.getD i undef) (M.getD i undef)) with
  | true => simp
  | false => simp
theorem all_same {l : List Nat} {p : Nat → Bool} (h : ∀ i ∈ l, p i = true) : l.all p = true := List.all_eq_true.2 h
/-- two ints -/
def qv : Value → Value → Bool
  | .int _ a, .int _ b => a == b
  | _, _ => false
theorem Try.info_row3 : ∃ i0, Try.prog.info? 70 = some i0 ∧ (i0.zero, i0.size, i0.bytes) = (some (.agg #[iv 0, iv 0, iv 0]), 3, 24) := ⟨_, rfl, by kernel_rfl⟩
theorem agg_int (w : World) : (isAgg 3).run Try.prog w = .ok false w := by kernel_rfl
theorem same_row3 (a b c : Int) (w : World) : (binOp .neq 70 (.agg #[iv a, iv b, iv c]) (.agg #[iv a, iv b, iv c])).run Try.prog w = .ok (.bool false) w := by
  have h := run_equalIn_arr (t := 70) (e := 3) (n := 3) Try.underlying70 (by kernel_rfl) agg_int 9999 [iv a, iv b, iv c] [iv a, iv b, iv c] qv rfl rfl (fun x y hx hy w => by
    have hx' : ∃ n, x = iv n := by
      simp at hx
      rcases hx with rfl | rfl | rfl <;> exact ⟨_, rfl⟩
    have hy' : ∃ n, y = iv n := by
      simp at hy
      rcases hy with rfl | rfl | rfl <;> exact ⟨_, rfl⟩
    obtain ⟨n, rfl⟩ := hx'
    obtain ⟨m, rfl⟩ := hy'
    rw [run_equalIn_int w 9998 3 .i64 .i64 n m Try.underlying3]
    rfl) w
  have hh : ((List.range' 0 3).all fun i => qv ([iv a, iv b, iv c].getD i undef) ([iv a, iv b, iv c].getD i undef)) = true := by
    refine all_same (fun i hi => ?_)
    simp at hi
    rcases (show i = 0 ∨ i = 1 ∨ i = 2 by omega) with rfl | rfl | rfl <;> simp [qv]
  rw [hh] at h
  rw [run_neq_struct]
  have h' : (Op.equalIn 10000 70 (.agg #[iv a, iv b, iv c]) (.agg #[iv a, iv b, iv c])).run Try.prog w = .ok true w := h
  rw [h']
  rfl
theorem guard_row3 (op : BinOp) (x y : Operand) (xs ys : Array Value) (w : World) : (eqGuard op 70 x y (.agg xs) (.agg ys)).run Try.prog w = .ok () w := run_eqGuard_agg w op _ x y xs ys (by kernel_rfl)
def ptf (p : Pt) : List Value := [iv p.1, iv p.2.1, iv p.2.2]
def flat (l : List Pt) : List Value := (l.map ptf).flatten
theorem flat_snoc (l : List Pt) (p : Pt) : flat (l ++ [p]) = flat l ++ ptf p := by unfold flat; simp
theorem flat_len : ∀ l : List Pt, (flat l).length = l.length * 3
  | [] => rfl
  | p :: l => by
    have := flat_len l
    unfold flat at *
    rw [List.map_cons, List.flatten_cons, List.length_append, this, List.length_cons]
    simp [ptf]
    omega
theorem flat_at : ∀ (l : List Pt) (j : Nat) (hj : j < l.length) (k : Nat), k < 3 → (flat l)[j * 3 + k]? = (ptf l[j])[k]?
  | [], j, hj, _, _ => by simp at hj
  | p :: l, 0, hj, k, hk => by
    unfold flat
    rw [List.map_cons, List.flatten_cons, List.getElem?_append_left (by simp [ptf]; omega)]
    simp
  | p :: l, j + 1, hj, k, hk => by
    have := flat_at l j (by simpa using hj) k hk
    unfold flat at *
    rw [List.map_cons, List.flatten_cons, List.getElem?_append_right (by simp [ptf]; omega), show (j + 1) * 3 + k - (ptf p).length = j * 3 + k by simp [ptf]; omega, this]
    simp
/-- a row of the call's own that holds these -/
def Own3 (w : World) (base : Nat) (v : Value) (l : List Pt) : Prop := w.ownsRow base 70 3 v l.length (flat l)
theorem Own3.tsrc {w : World} {base : Nat} {v : Value} {l : List Pt} (h : Own3 w base v l) (hs : l.length ≤ 1000000) (hf : ∀ p ∈ l, F3 p) : TSrc w v l := by
  rcases h.2 with ⟨rfl, hn⟩ | ⟨g, cap, cur, rfl, _, hg, hle, _, hsz, ht⟩
  · obtain rfl : l = [] := List.eq_nil_of_length_eq_zero hn
    exact TSrc.nil w
  · refine TSrc.of_cells rfl hle (fun j hj => ?_) (by omega) hf
    have hB : Box w g 70 cur := hg
    have key : ∀ k, k < 3 → w.cell? ⟨g, j * 3 + k, none⟩ = (ptf l[j])[k]? := fun k hk => by
      rw [hB.cell, ← flat_at l j hj k hk, ← ht, List.getElem?_take, if_pos (by omega)]
      simp
    refine ⟨?_, ?_, ?_⟩
    · have := key 0 (by decide)
      rw [Nat.add_zero] at this
      rw [this]; rfl
    · rw [key 1 (by decide)]; rfl
    · rw [key 2 (by decide)]; rfl
def PoI (w : World) (l : List Pt) (s3 s4 : Value) (wr : World) : Prop := ∃ j : Nat, j ≤ l.length ∧ s4 = iv j ∧ Own3 wr w.heap.size s3 (l.take j) ∧ Only Nix w wr
set_option maxRecDepth 100000 in
set_option maxHeartbeats 8000000 in
theorem pointsL_any {w : World} {A : Option Addr} {n c : Nat} {l : List Pt} (hs : TSrc w (.slice A n c) l) (hn : l.length ≤ 1000) : Calls Try.prog 19 #[.slice A n c] w fun e w' => ∃ v, e = .returned v ∧ TSrc w' v l ∧ Only Nix w w' := by
  have hlen := hs.len
  have HS := Lib.hid hs
  subst hlen
  obtain ⟨i0, hi, hz⟩ := Try.info_row3
  simp only [Prod.mk.injEq] at hz
  obtain ⟨hz0, hz1, hz2⟩ := hz
  have Hi := Lib.hid hi
  have Hz0 := Lib.hid hz0
  have Hz1 := Lib.hid hz1
  have Hz2 := Lib.hid hz2
  have hsm : l.length ≤ 140737488355328 := by omega
  clear hs hi hz0 hz1 hz2
  go_enter Try.func19, Try.ntmps19
  go_wp2
  go_loopw [3, 4] (fun s3 s4 wr => PoI w l s3 s4 wr) (fun _ s4 _ => l.length - (intOf s4).toNat)
  case atStart => exact ⟨0, Nat.zero_le _, rfl, ⟨by simp [flat], .inl ⟨rfl, rfl⟩⟩, Only.refl _ _⟩
  case round =>
    obtain ⟨j, hj, rfl, hown, ho⟩ := hrel
    by_cases hlt : j < l.length
    · obtain ⟨ad, rfl, hx0, hx1, hx2⟩ := (HS.out.nix ho).at_ hlt
      have hlti : (j : Int) < (l.length : Int) := by omega
      have HT : Hid (flat (l.take (j + 1)) = flat (l.take j) ++ ptf l[j]) := Lib.hid (by rw [List.take_succ_eq_append_getElem hlt, flat_snoc])
      have hlj : (l.take j).length = j := by rw [List.length_take]; omega
      have hlj1 : (l.take (j + 1)).length = j + 1 := by rw [List.length_take]; omega
      have Hlj1 := Lib.hid hlj1
      unfold Own3 at hown
      rw [hlj] at hown
      obtain ⟨A3, c3, hv3⟩ := owns_slice hown
      subst hv3
      have Hown := Lib.hid hown
      have HO := Lib.hid ho
      unfold ptf at HT
      generalize l[j] = P at *
      obtain ⟨p, q, r⟩ := P
      simp only at hx0 hx1 hx2 HT
      have Hw : Hid (((wr.alloc (.cells #[iv p, iv q, iv r] 70)).drew).ownsRow w.heap.size 70 3 (.slice A3 j c3) j (flat (l.take j))) := Lib.hid (Hown.out.alloc _)
      have Hn : Hid (∀ (k : Nat) (x : Value), [iv p, iv q, iv r][k]? = some x → ((wr.alloc (.cells #[iv p, iv q, iv r] 70)).drew).cell? (Addr.add ⟨wr.heap.size, 0, none⟩ k) = some x) := Lib.hid (by
        intro k x hx
        rw [Addr.add_lit, Nat.zero_add]
        have := (Box.new wr 70 #[iv p, iv q, iv r]).cell k
        have h2 : (wr.alloc (.cells #[iv p, iv q, iv r] 70)).drew.cell? ⟨wr.heap.size, k, none⟩ = (wr.alloc (.cells #[iv p, iv q, iv r] 70)).cell? ⟨wr.heap.size, k, none⟩ := rfl
        rw [h2, this]
        simpa using hx)
      have Hc : Hid (∀ x ∈ [iv p, iv q, iv r], x.oneCell' = true) := Lib.hid (by
        intro x hx; simp at hx; rcases hx with rfl | rfl | rfl <;> rfl)
      have Hm : Hid (j + 1 ≤ maxLen) := Lib.hid (by unfold maxLen; omega)
      have Hb : Hid ((j + 1) * 24 ≤ 140737488355328) := Lib.hid (by omega)
      have Hs : Hid (w.heap.size ≤ ((wr.alloc (.cells #[iv p, iv q, iv r] 70)).drew).heap.size) := Lib.hid (by have := ho.size; simp; omega)
      clear hown ho hlj hlj1
      go_wp2_with fail
      go_region_law (refine step_append_lies _ rfl (.tmp 11) (.tmp 28) 44 rfl w.heap.size 70 i0 (.agg #[iv 0, iv 0, iv 0]) 3 24 Try.underlying44 Hi.out Hz0.out Hz1.out Hz2.out rfl (by decide) (.slice A3 j c3) j (flat (l.take j)) (by simp [Act.eval]) Hw.out ⟨wr.heap.size, 0, none⟩ 1 1 [iv p, iv q, iv r] (by simp [Act.eval]) rfl Hn.out Hc.out (by decide) Hm.out Hb.out Hs.out _ rfl ?_; intro g cap w3 hown3 hgr hg3 hgl; have HM := Lib.hid (And.intro hown3 hgr); clear hown3 hgr hg3 hgl)
      all_goals
        have HO3 := Lib.hid (((HO.out.alloc (.cells #[iv p, iv q, iv r] 70)).drew).grown HM.out.2 (fun k e => .inr (Hown.out.lt k e).1))
        go_wp2
        go_roundw
        case rel =>
          refine ⟨j + 1, hlt, by go_num, ?_, HO3.out⟩
          unfold Own3
          rw [HT.out, Hlj1.out]
          exact HM.out.1
        case measure => simp [intOf]; omega
    · obtain rfl : j = l.length := by omega
      have hlti : ¬ ((l.length : Nat) : Int) < (l.length : Int) := by omega
      have HTk : Hid (l.take l.length = l) := Lib.hid (List.take_of_length_le (Nat.le_refl _))
      have HR : Hid (TSrc wr u3 l) := Lib.hid (by
        rw [HTk.out] at hown
        exact hown.tsrc (by omega) HS.out.fits)
      have HO := Lib.hid ho
      clear hown ho
      go_wp2
      go_ret
      exact ⟨_, rfl, HR.out, HO.out⟩
def SaI (w : World) (m : Nat) (s5 : Value) (wr : World) : Prop := ∃ j : Nat, j ≤ m ∧ s5 = iv j ∧ Only Nix w wr
set_option maxHeartbeats 4000000 in
theorem sameL_any {w : World} {v1 v2 : Value} {l : List Pt} (ha : TSrc w v1 l) (hb : TSrc w v2 l) : Calls Try.prog 22 #[v1, v2] w fun e w' => e = .returned (.bool true) ∧ Only Nix w w' := by
  obtain ⟨A, c, rfl⟩ := ha.slice
  obtain ⟨B, d, rfl⟩ := hb.slice
  have hsm := ha.small
  have HA := Lib.hid ha
  have HB := Lib.hid hb
  have HN := same_row3
  have HG := guard_row3
  clear ha hb
  go_enter Try.func22, Try.ntmps22
  go_wp2
  go_loopw [5] (fun s5 wr => SaI w l.length s5 wr) (fun s5 _ => l.length - (intOf s5).toNat)
  case atStart => exact ⟨0, Nat.zero_le _, rfl, Only.refl _ _⟩
  case round =>
    obtain ⟨j, hj, rfl, ho⟩ := hrel
    have HO := Lib.hid ho
    clear ho
    by_cases hlt : j < l.length
    · obtain ⟨ad, rfl, hx0, hx1, hx2⟩ := (HA.out.nix HO.out).at_ hlt
      obtain ⟨bd, rfl, hy0, hy1, hy2⟩ := (HB.out.nix HO.out).at_ hlt
      have hlti : (j : Int) < (l.length : Int) := by omega
      generalize l[j] = P at *
      obtain ⟨p, q, r⟩ := P
      simp only at hx0 hx1 hx2 hy0 hy1 hy2
      go_wp2
      go_quiet (fail)
      go_wp2
      go_roundw
      case rel => exact ⟨j + 1, hlt, by go_num, HO.out.drewN _⟩
      case measure => simp [intOf]; omega
    · obtain rfl : j = l.length := by omega
      have hlti : ¬ ((l.length : Nat) : Int) < (l.length : Int) := by omega
      go_wp2
      go_ret
      exact ⟨rfl, HO.out⟩
end Go.Proofs.Ytighdjbeddcckaa
