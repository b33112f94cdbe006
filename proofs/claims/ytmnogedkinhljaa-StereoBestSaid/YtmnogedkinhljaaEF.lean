/-
  turned: two channels, turned number by number.
-/
import Derived.Test.YtmnogedkinhljaaEE
import Derived.Test.YtmnogedkinhljaaER
import Derived.Deep.OwnRows
import Derived.Laws.OwnMore
import Derived.Shelf.Abstract
namespace Go.Proofs.Ytmnogedkinhljaa
open Go.RowKit Go.Shelf

/-- what two channels are turned into: two rows of its own, or an error alone -/
def TnR (w : World) (E : Int) (ps qs : List Int) (e : Ending) (w' : World) : Prop :=
  (∃ A c B d, e = .returned (.tuple #[.slice A ps.length c, .slice B qs.length d, iv E]) ∧ ISrc w' (.slice A ps.length c) ps ∧ ISrc w' (.slice B qs.length d) qs) ∧ Only Nix w w'
theorem TnR.bad {w w' : World} {E : Int} (ho : Only Nix w w') : TnR w E [] [] (.returned (.tuple #[.slice none 0 0, .slice none 0 0, iv E])) w' :=
  ⟨⟨none, 0, none, 0, rfl, ⟨⟨none, 0, rfl, by decide, fun j hj => by simp at hj⟩, by decide, by simp⟩, ⟨⟨none, 0, rfl, by decide, fun j hj => by simp at hj⟩, by decide, by simp⟩⟩, ho⟩
theorem Try.info_int : (Try.prog.info? 3).map (fun i => (i.zero, i.size, i.bytes)) = some (some (.int .i64 0), 1, 8) := by kernel_rfl

theorem nil_no (k : FuncId) (w : World) : (binOp .eql 41 (.func (.func k) #[] #[]) .nilFunc).run Try.prog w = .ok (.bool false) w := by kernel_rfl
theorem nil_yes (w : World) : (binOp .eql 41 .nilFunc .nilFunc).run Try.prog w = .ok (.bool true) w := by kernel_rfl
set_option maxHeartbeats 1000000 in
theorem turned_nil {w : World} (v1 v2 : Value) : Calls Try.prog 17 #[.nilFunc, v1, v2] w fun e w' => TnR w 13 [] [] e w' := by
  have hnil := nil_yes
  go_enter Try.func17, Try.ntmps17
  go_wp2
  refine bodyPost_ret (v := .tuple #[.slice none 0 0, .slice none 0 0, iv 13]) ?_ rfl (TnR.bad (Only.refl _ _))
  simp [results, Try.f17, go_sem]

/-- what is turned, or nothing -/
def tnL (f : Int → Int → Int) (xs ys : List Int) : List Int := if ckE xs ys = 0 then List.zipWith f xs ys else []
/-- a row under way -/
def rowC (T : List Int) (j : Nat) : Array Value := ((T.take j).map iv ++ List.replicate (T.length - j) (iv 0)).toArray
theorem rowC_zero (T : List Int) : rowC T 0 = (List.replicate T.length (iv 0)).toArray := by simp [rowC]
theorem rowC_all (T : List Int) : rowC T T.length = (T.map iv).toArray := by simp [rowC]
theorem rowC_set (T : List Int) (j : Nat) (hj : j < T.length) : (rowC T j).setIfInBounds j (iv T[j]) = rowC T (j + 1) := by
  unfold rowC
  rw [List.setIfInBounds_toArray]
  congr 1
  apply List.ext_getElem?
  intro i
  rw [List.getElem?_set]
  by_cases h : j = i
  · subst h
    rw [if_pos rfl, if_pos (by simp; omega), List.take_succ_eq_append_getElem hj, List.map_append, List.append_assoc, List.getElem?_append_right (by simp; omega), List.length_map, List.length_take, Nat.min_eq_left (Nat.le_of_lt hj), Nat.sub_self]
    rfl
  · rw [if_neg h]
    rcases Nat.lt_or_gt_of_ne h with h | h
    · rw [List.getElem?_append_right (by simp; omega), List.getElem?_append_right (by simp; omega)]
      simp only [List.length_map, List.length_take, List.getElem?_replicate]
      congr 1
      simp; omega
    · rw [List.getElem?_append_left (by simp; omega), List.getElem?_append_left (by simp; omega), List.getElem?_map, List.getElem?_map, List.getElem?_take_of_lt h, List.getElem?_take_of_lt (by omega)]

theorem zip_mem {f : Int → Int → Int} {xs ys : List Int} {z : Int} (h : z ∈ List.zipWith f xs ys) : ∃ a b, a ∈ xs ∧ b ∈ ys ∧ z = f a b := by
  obtain ⟨i, hi, rfl⟩ := List.getElem_of_mem h
  rw [List.length_zipWith] at hi
  rw [List.getElem_zipWith]
  exact ⟨_, _, List.getElem_mem (by omega), List.getElem_mem (by omega), rfl⟩
theorem made_row (T : List Int) (n : Nat) (h : T.length = n) : madeCells #[.int .i64 0] n = rowC T 0 := by
  rw [rowC_zero, h]
  apply Array.ext'
  rw [toList_madeCells_one]
/-- what a round's stores have done -/
structure TwW (U : World) (b1 b2 : Nat) (c1 d1 c2 d2 : Array Value) (L : Nat → Bool) (u : World) : Prop where
  only : Only (fun k => k = b1 ∨ k = b2) U u
  o1 : L 18 = false → Box u b1 3 c1
  n1 : L 18 = true → Box u b1 3 d1
  o2 : L 20 = false → Box u b2 3 c2
  n2 : L 20 = true → Box u b2 3 d2
section
variable {U u : World} {b1 b2 : Nat} {c1 d1 c2 d2 : Array Value} {L : Nat → Bool}
theorem TwW.same {i : Nat} (h : TwW U b1 b2 c1 d1 c2 d2 L u) (h1 : 18 ≠ i) (h2 : 20 ≠ i) : TwW U b1 b2 c1 d1 c2 d2 (andOne L i) u :=
  ⟨h.only, fun e => h.o1 (by rwa [andOne_ne h1] at e), fun e => h.n1 (by rwa [andOne_ne h1] at e), fun e => h.o2 (by rwa [andOne_ne h2] at e), fun e => h.n2 (by rwa [andOne_ne h2] at e)⟩
theorem TwW.store1 {j : Nat} {v : Value} (h : TwW U b1 b2 c1 d1 c2 d2 L u) (hb : b1 ≠ b2) (hL : L 18 = false) (hd : c1.setIfInBounds j v = d1) : TwW U b1 b2 c1 d1 c2 d2 (andOne L 18) (u.setCell ⟨b1, j, none⟩ v) := by
  subst hd
  exact ⟨h.only.setCell (.inl (.inl rfl)) _, fun e => (by rw [andOne_self] at e; cases e), fun _ => (h.o1 hL).put j v, fun e => (h.o2 (by rwa [andOne_ne (by decide)] at e)).off (p := ⟨b1, j, none⟩) (Ne.symm hb) v, fun e => (h.n2 (by rwa [andOne_ne (by decide)] at e)).off (p := ⟨b1, j, none⟩) (Ne.symm hb) v⟩
theorem TwW.store2 {j : Nat} {v : Value} (h : TwW U b1 b2 c1 d1 c2 d2 L u) (hb : b1 ≠ b2) (hL : L 20 = false) (hd : c2.setIfInBounds j v = d2) : TwW U b1 b2 c1 d1 c2 d2 (andOne L 20) (u.setCell ⟨b2, j, none⟩ v) := by
  subst hd
  exact ⟨h.only.setCell (.inl (.inr rfl)) _, fun e => (h.o1 (by rwa [andOne_ne (by decide)] at e)).off (p := ⟨b2, j, none⟩) hb v, fun e => (h.n1 (by rwa [andOne_ne (by decide)] at e)).off (p := ⟨b2, j, none⟩) hb v, fun e => (by rw [andOne_self] at e; cases e), fun _ => (h.o2 hL).put j v⟩
end
/-- between two rounds -/
structure TnL (w : World) (b1 b2 n : Nat) (ps qs : List Int) (s : Value) (wr : World) : Prop where
  ex : ∃ j : Nat, j ≤ n ∧ s = iv j ∧ Box wr b1 3 (rowC ps j) ∧ Box wr b2 3 (rowC qs j)
  only : Only Nix w wr

set_option maxRecDepth 100000 in
set_option maxHeartbeats 4000000 in
theorem turned_any {w : World} {k : FuncId} {f g : Int → Int → Int} {n c m d : Nat} {A B : Option Addr} {xs ys : List Int} (hE : Enters Try.prog k) (hT : TurnC k f g)
    (hx : ISrc w (.slice A n c) xs) (hy : ISrc w (.slice B m d) ys) (hn : n ≤ 1000)
    (hb : ∀ l r, isN l → isN r → (-9223372036854775808 ≤ f l r ∧ f l r ≤ 9223372036854775807) ∧ (-9223372036854775808 ≤ g l r ∧ g l r ≤ 9223372036854775807)) :
    Calls Try.prog 17 #[.func (.func k) #[] #[], .slice A n c, .slice B m d] w fun e w' => TnR w (ckE xs ys) (tnL f xs ys) (tnL g xs ys) e w' := by
  have hxl := hx.len
  have hyl := hy.len
  have hnil := nil_no k
  have hen : ∀ args w, (callFunc k args).run Try.prog w = .ok (.enter k args) w := hE
  clear hE
  have a1 := (Only.refl Nix w).alloc (.cells #[.slice A n c, .slice B m d] 22)
  have b1 := Box.new w 22 #[.slice A n c, .slice B m d]
  have HCk := Lib.hid (check_any b1 (hx.nix a1) (hy.nix a1))
  obtain ⟨W1, hW1⟩ : ∃ W1, w.alloc (.cells #[.slice A n c, .slice B m d] 22) = W1 := ⟨_, rfl⟩
  rw [hW1] at a1 HCk
  have HA := Lib.hid a1
  have HX := Lib.hid hx
  have HY := Lib.hid hy
  have Hxl := Lib.hid hxl
  have Hyl := Lib.hid hyl
  clear b1 a1 hx hy hxl hyl
  obtain ⟨E, hE⟩ : ∃ E, ckE xs ys = E := ⟨_, rfl⟩
  rw [hE] at HCk ⊢
  by_cases h0 : E = 0
  · subst h0
    have hnm : n = m := by
      rw [Hxl.out, Hyl.out]
      refine Decidable.byContradiction fun h => ?_
      unfold ckE at hE
      rw [if_pos h] at hE
      cases hE
    subst hnm
    have hXY : (∀ x ∈ xs, isN x) ∧ (∀ y ∈ ys, isN y) := by
      refine Decidable.byContradiction fun h => ?_
      unfold ckE at hE
      rw [if_neg (by rw [← Hxl.out, ← Hyl.out]; exact fun h => h rfl), if_neg h] at hE
      cases hE
    have HXY := Lib.hid hXY
    have eF : tnL f xs ys = List.zipWith f xs ys := if_pos hE
    have eG : tnL g xs ys = List.zipWith g xs ys := if_pos hE
    rw [eF, eG]
    clear hE eF eG hXY
    have hlF : (List.zipWith f xs ys).length = n := by rw [List.length_zipWith, ← Hxl.out, ← Hyl.out, Nat.min_self]
    have hlG : (List.zipWith g xs ys).length = n := by rw [List.length_zipWith, ← Hxl.out, ← Hyl.out, Nat.min_self]
    have HFF : Hid (∀ z ∈ List.zipWith f xs ys, -9223372036854775808 ≤ z ∧ z ≤ 9223372036854775807) := Lib.hid (fun z hz => by
      obtain ⟨a, b, ha, hb', rfl⟩ := zip_mem hz
      exact (hb a b (HXY.out.1 a ha) (HXY.out.2 b hb')).1)
    have HFG : Hid (∀ z ∈ List.zipWith g xs ys, -9223372036854775808 ≤ z ∧ z ≤ 9223372036854775807) := Lib.hid (fun z hz => by
      obtain ⟨a, b, ha, hb', rfl⟩ := zip_mem hz
      exact (hb a b (HXY.out.1 a ha) (HXY.out.2 b hb')).2)
    have hmk := run_make_row' (P := Try.prog) 22 3 (.int .i64 0) 8 Try.underlying22 Try.info_int rfl .i64 .i64 n (by omega) (by omega)
    go_enter Try.func17, Try.ntmps17
    go_wp2_with fail
    refine (HCk.out).mono ?_
    rintro e w2 ⟨rfl, rfl⟩
    go_wp2_with fail
    go_region
    · have q1 := ((Box.new W1 3 (madeCells #[.int .i64 0] n)).alloc (.cells (madeCells #[.int .i64 0] n) 3)).drew
      have q2 := (Box.new (W1.alloc (.cells (madeCells #[.int .i64 0] n) 3)) 3 (madeCells #[.int .i64 0] n)).drew
      rw [World.size_alloc] at q2
      have q3 := (((Only.refl Nix W1).alloc (.cells (madeCells #[.int .i64 0] n) 3)).alloc (.cells (madeCells #[.int .i64 0] n) 3)).drew
      generalize ((W1.alloc (.cells (madeCells #[.int .i64 0] n) 3)).alloc (.cells (madeCells #[.int .i64 0] n) 3)).drew = U at *
      have HB1 : Hid (Box U (W1.heap.size) 3 (rowC (List.zipWith f xs ys) 0)) := Lib.hid (by rw [← made_row _ n hlF]; exact q1)
      have HB2 : Hid (Box U (W1.heap.size + 1) 3 (rowC (List.zipWith g xs ys) 0)) := Lib.hid (by rw [← made_row _ n hlG]; exact q2)
      have HO := Lib.hid (HA.out.trans q3)
      have hge := HA.out.size
      clear q1 q2 q3 hW1
      obtain ⟨b1, hb1⟩ : ∃ b, W1.heap.size = b := ⟨_, rfl⟩
      obtain ⟨b2, hb2⟩ : ∃ b, W1.heap.size + 1 = b := ⟨_, rfl⟩
      have hne : b1 ≠ b2 := by omega
      have hg1 : w.heap.size ≤ b1 := by omega
      have hg2 : w.heap.size ≤ b2 := by omega
      rw [hb1] at HB1
      rw [hb2] at HB2
      rw [hb2, hb1]
      clear hb1 hb2 hge HCk
      go_wp2
      go_loopw [28] (fun s28 wr => TnL w b1 b2 n (List.zipWith f xs ys) (List.zipWith g xs ys) s28 wr) (fun s28 _ => n - (intOf s28).toNat)
      case atStart => exact ⟨⟨0, Nat.zero_le _, rfl, HB1.out, HB2.out⟩, HO.out⟩
      case round =>
        obtain ⟨⟨j, hj, rfl, hr1, hr2⟩, hO⟩ := hrel
        have HR1 := Lib.hid hr1
        have HR2 := Lib.hid hr2
        have HOr := Lib.hid hO
        clear hr1 hr2 hO HB1 HB2 HO
        by_cases hlt : j < n
        · have hltx : j < xs.length := by rw [← Hxl.out]; exact hlt
          have hlty : j < ys.length := by rw [← Hyl.out]; exact hlt
          obtain ⟨ad, rfl, hcx⟩ := (HX.out.nix HOr.out).at_ hltx
          obtain ⟨bd, rfl, hcy⟩ := (HY.out.nix HOr.out).at_ hlty
          have hlti : (j : Int) < (n : Int) := by omega
          have hnx := HXY.out.1 _ (List.getElem_mem hltx)
          have hny := HXY.out.2 _ (List.getElem_mem hlty)
          have HT := Lib.hid (fun u => hT u xs[j] ys[j] hnx hny)
          have HS1 := Lib.hid (rowC_set (List.zipWith f xs ys) j (by rw [hlF]; exact hlt))
          have HS2 := Lib.hid (rowC_set (List.zipWith g xs ys) j (by rw [hlG]; exact hlt))
          rw [List.getElem_zipWith] at HS1 HS2
          have hbx : ¬ (fun k => k = b1 ∨ k = b2) (ad.add j).block := by
            rw [add_block]
            have := HX.out.blk ad n c rfl (by omega)
            show ¬ (ad.block = b1 ∨ ad.block = b2)
            omega
          have hby : ¬ (fun k => k = b1 ∨ k = b2) (bd.add j).block := by
            rw [add_block]
            have := HY.out.blk bd n d rfl (by omega)
            show ¬ (bd.block = b1 ∨ bd.block = b2)
            omega
          have HBX := Lib.hid hbx
          have HBY := Lib.hid hby
          have hsz1 : j < (rowC (List.zipWith f xs ys) j).size := by unfold rowC; simp; omega
          have hsz2 : j < (rowC (List.zipWith g xs ys) j).size := by unfold rowC; simp; omega
          have HZ1 : Hid (∃ v, (rowC (List.zipWith f xs ys) j)[j]? = some v) := Lib.hid ⟨_, Array.getElem?_eq_getElem hsz1⟩
          have HZ2 : Hid (∃ v, (rowC (List.zipWith g xs ys) j)[j]? = some v) := Lib.hid ⟨_, Array.getElem?_eq_getElem hsz2⟩
          generalize f xs[j] ys[j] = p at *
          generalize g xs[j] ys[j] = q at *
          generalize xs[j] = x at *
          generalize ys[j] = y at *
          generalize rowC (List.zipWith f xs ys) j = R1 at *
          generalize rowC (List.zipWith g xs ys) j = R2 at *
          obtain ⟨S1, hS1⟩ : ∃ S1, rowC (List.zipWith f xs ys) (j + 1) = S1 := ⟨_, rfl⟩
          obtain ⟨S2, hS2⟩ : ∃ S2, rowC (List.zipWith g xs ys) (j + 1) = S2 := ⟨_, rfl⟩
          rw [hS1] at HS1
          rw [hS2] at HS2
          have HE1 := Lib.hid hS1
          have HE2 := Lib.hid hS2
          clear hS1 hS2
          have HCX := Lib.hid hcx
          have HCY := Lib.hid hcy
          have HNE := Lib.hid hne
          clear hltx hlty hnx hny hbx hby hsz1 hsz2 hb hcx hcy hlF hlG
          go_wp2_with fail
          have fr_A : ∀ j s, j < 21 → (([some 32, some 33, some 34, some 35, some 36, some 37, some 38, some 39, some 40, some 41, some 42, some 43, some 44, some 45, some 31, some 46, some 47, some 48, none, some 49, none] : List (Option Nat)).all fun d => d != some s) = true → ([some 32, some 33, some 34, some 35, some 36, some 37, some 38, some 39, some 40, some 41, some 42, some 43, some 44, some 45, some 31, some 46, some 47, some 48, none, some 49, none] : List (Option Nat)).getD j none ≠ some s := by
            intro j s hj ha e
            rw [List.getD_eq_getElem?_getD, List.getElem?_eq_getElem (by exact hj), Option.getD_some] at e
            have := List.all_eq_true.1 ha _ (List.getElem_mem (by exact hj))
            rw [e] at this
            simp at this
          refine region_tel (by kernel_rfl) (fun k0 => ([some 32, some 33, some 34, some 35, some 36, some 37, some 38, some 39, some 40, some 41, some 42, some 43, some 44, some 45, some 31, some 46, some 47, some 48, none, some 49, none] : List (Option Nat)).getD k0 none) (PL [eqP (.slice (some ⟨b1, 0, none⟩) n n), eqP (iv j), eqP (.slice (some ⟨b2, 0, none⟩) n n), eqP (iv j), eqP (.func (.func k) #[] #[]), eqP (.slice (some ad) n c), eqP (iv j), eqP (.pointer (some (ad.add j))), eqP (iv x), eqP (.slice (some bd) n d), eqP (iv j), eqP (.pointer (some (bd.add j))), eqP (iv y), eqP (.tuple #[iv p, iv q]), eqP (.tuple #[iv p, iv q]), eqP (iv p), eqP (iv q), eqP (.pointer (some ⟨b1, j, none⟩)), (fun _ _ => True), eqP (.pointer (some ⟨b2, j, none⟩)), (fun _ _ => True)]) (fun _ _ => True) (TwW wr b1 b2 R1 S1 R2 S2) 53 21 rfl (by kernel_rfl) (by kernel_rfl) rfl (by kernel_rfl) (by kernel_rfl) (stab_all ⟨fun _ _ _ h _ => h, fun _ _ _ h _ => h, fun _ _ _ h _ => h, fun _ _ _ h _ => h, fun _ _ _ h _ => h, fun _ _ _ h _ => h, fun _ _ _ h _ => h, fun _ _ _ h _ => h, fun _ _ _ h _ => h, fun _ _ _ h _ => h, fun _ _ _ h _ => h, fun _ _ _ h _ => h, fun _ _ _ h _ => h, fun _ _ _ h _ => h, fun _ _ _ h _ => h, fun _ _ _ h _ => h, fun _ _ _ h _ => h, fun _ _ _ h _ => h, fun _ _ _ h _ => h, fun _ _ _ h _ => h, fun _ _ _ h _ => h, trivial⟩) (⟨(Only.refl _ _).drew, fun _ => HR1.out, (fun e => by cases e), fun _ => HR2.out, (fun e => by cases e)⟩) ?stepsA (fun vs => [(32, vs 0), (33, vs 1), (34, vs 2), (35, vs 3), (36, vs 4), (37, vs 5), (38, vs 6), (39, vs 7), (40, vs 8), (41, vs 9), (42, vs 10), (43, vs 11), (44, vs 12), (45, vs 13), (31, vs 14), (46, vs 15), (47, vs 16), (48, vs 17), (49, vs 19)]) (fun vs => rfl) ?doneA
          case stepsA =>
            refine ⟨?_, ?_, ?_, ?_, ?_, ?_, ?_, ?_, ?_, ?_, ?_, ?_, ?_, ?_, ?_, ?_, ?_, ?_, ?_, ?_, ?_, trivial⟩
            · intro L vs A' u hW hL0 hnd K' hK
              have hS := hW.wi.s
              have r6 : A'.tmps[6]? = some (.slice (some ⟨b1, 0, none⟩) n n) := (hW.out 6 (fun j hj => fr_A j 6 hj (by kernel_rfl))).trans rfl
              go_simp
              exact hK _ _ (by first | rfl | (show _ = _; simp)) trivial (hS.same (by decide) (by decide))
            · intro L vs A' u hW hL0 hnd K' hK
              have hS := hW.wi.s
              have r10 : A'.tmps[10]? = some (iv j) := (hW.out 10 (fun j hj => fr_A j 10 hj (by kernel_rfl))).trans rfl
              go_simp
              exact hK _ _ (by first | rfl | (show _ = _; simp)) trivial (hS.same (by decide) (by decide))
            · intro L vs A' u hW hL0 hnd K' hK
              have hS := hW.wi.s
              have r7 : A'.tmps[7]? = some (.slice (some ⟨b2, 0, none⟩) n n) := (hW.out 7 (fun j hj => fr_A j 7 hj (by kernel_rfl))).trans rfl
              go_simp
              exact hK _ _ (by first | rfl | (show _ = _; simp)) trivial (hS.same (by decide) (by decide))
            · intro L vs A' u hW hL0 hnd K' hK
              have hS := hW.wi.s
              have r10 : A'.tmps[10]? = some (iv j) := (hW.out 10 (fun j hj => fr_A j 10 hj (by kernel_rfl))).trans rfl
              go_simp
              exact hK _ _ (by first | rfl | (show _ = _; simp)) trivial (hS.same (by decide) (by decide))
            · intro L vs A' u hW hL0 hnd K' hK
              have hS := hW.wi.s
              have r0 : A'.tmps[0]? = some (.func (.func k) #[] #[]) := (hW.out 0 (fun j hj => fr_A j 0 hj (by kernel_rfl))).trans rfl
              go_simp
              exact hK _ _ (by first | rfl | (show _ = _; simp)) trivial (hS.same (by decide) (by decide))
            · intro L vs A' u hW hL0 hnd K' hK
              have hS := hW.wi.s
              have r1 : A'.tmps[1]? = some (.slice (some ad) n c) := (hW.out 1 (fun j hj => fr_A j 1 hj (by kernel_rfl))).trans rfl
              go_simp
              exact hK _ _ (by first | rfl | (show _ = _; simp)) trivial (hS.same (by decide) (by decide))
            · intro L vs A' u hW hL0 hnd K' hK
              have hS := hW.wi.s
              have r10 : A'.tmps[10]? = some (iv j) := (hW.out 10 (fun j hj => fr_A j 10 hj (by kernel_rfl))).trans rfl
              go_simp
              exact hK _ _ (by first | rfl | (show _ = _; simp)) trivial (hS.same (by decide) (by decide))
            · intro L vs A' u hW hL0 hnd K' hK
              have hS := hW.wi.s
              have r37 : A'.tmps[37]? = some (.slice (some ad) n c) := by
                obtain ⟨x, e, h⟩ := hW.tel 5 37 (by decide) (hnd 5 (by kernel_rfl)) rfl
                rw [e]; exact congrArg some h
              have r38 : A'.tmps[38]? = some (iv j) := by
                obtain ⟨x, e, h⟩ := hW.tel 6 38 (by decide) (hnd 6 (by kernel_rfl)) rfl
                rw [e]; exact congrArg some h
              go_simp
              exact hK _ _ (by first | rfl | (show _ = _; simp)) trivial (hS.same (by decide) (by decide))
            · intro L vs A' u hW hL0 hnd K' hK
              have hS := hW.wi.s
              have r39 : A'.tmps[39]? = some (.pointer (some (ad.add j))) := by
                obtain ⟨x, e, h⟩ := hW.tel 7 39 (by decide) (hnd 7 (by kernel_rfl)) rfl
                rw [e]; exact congrArg some h
              have hc := cell_only hS.only HCX.out HBX.out
              go_simp
              exact hK _ _ (by first | rfl | (show _ = _; simp)) trivial (hS.same (by decide) (by decide))
            · intro L vs A' u hW hL0 hnd K' hK
              have hS := hW.wi.s
              have r2 : A'.tmps[2]? = some (.slice (some bd) n d) := (hW.out 2 (fun j hj => fr_A j 2 hj (by kernel_rfl))).trans rfl
              go_simp
              exact hK _ _ (by first | rfl | (show _ = _; simp)) trivial (hS.same (by decide) (by decide))
            · intro L vs A' u hW hL0 hnd K' hK
              have hS := hW.wi.s
              have r10 : A'.tmps[10]? = some (iv j) := (hW.out 10 (fun j hj => fr_A j 10 hj (by kernel_rfl))).trans rfl
              go_simp
              exact hK _ _ (by first | rfl | (show _ = _; simp)) trivial (hS.same (by decide) (by decide))
            · intro L vs A' u hW hL0 hnd K' hK
              have hS := hW.wi.s
              have r41 : A'.tmps[41]? = some (.slice (some bd) n d) := by
                obtain ⟨x, e, h⟩ := hW.tel 9 41 (by decide) (hnd 9 (by kernel_rfl)) rfl
                rw [e]; exact congrArg some h
              have r42 : A'.tmps[42]? = some (iv j) := by
                obtain ⟨x, e, h⟩ := hW.tel 10 42 (by decide) (hnd 10 (by kernel_rfl)) rfl
                rw [e]; exact congrArg some h
              go_simp
              exact hK _ _ (by first | rfl | (show _ = _; simp)) trivial (hS.same (by decide) (by decide))
            · intro L vs A' u hW hL0 hnd K' hK
              have hS := hW.wi.s
              have r43 : A'.tmps[43]? = some (.pointer (some (bd.add j))) := by
                obtain ⟨x, e, h⟩ := hW.tel 11 43 (by decide) (hnd 11 (by kernel_rfl)) rfl
                rw [e]; exact congrArg some h
              have hc := cell_only hS.only HCY.out HBY.out
              go_simp
              exact hK _ _ (by first | rfl | (show _ = _; simp)) trivial (hS.same (by decide) (by decide))
            · intro L vs A' u hW hL0 hnd K' hK
              have hS := hW.wi.s
              have r36 : A'.tmps[36]? = some (.func (.func k) #[] #[]) := by
                obtain ⟨x, e, h⟩ := hW.tel 4 36 (by decide) (hnd 4 (by kernel_rfl)) rfl
                rw [e]; exact congrArg some h
              have r40 : A'.tmps[40]? = some (iv x) := by
                obtain ⟨x, e, h⟩ := hW.tel 8 40 (by decide) (hnd 8 (by kernel_rfl)) rfl
                rw [e]; exact congrArg some h
              have r44 : A'.tmps[44]? = some (iv y) := by
                obtain ⟨x, e, h⟩ := hW.tel 12 44 (by decide) (hnd 12 (by kernel_rfl)) rfl
                rw [e]; exact congrArg some h
              have HCL := Lib.hid (HT.out u)
              go_simp
              refine (HCL.out).mono ?_
              rintro _ u' ⟨rfl, rfl⟩
              exact hK _ _ rfl trivial (hS.same (by decide) (by decide))
            · intro L vs A' u hW hL0 hnd K' hK
              have hS := hW.wi.s
              have r45 : A'.tmps[45]? = some (.tuple #[iv p, iv q]) := by
                obtain ⟨x, e, h⟩ := hW.tel 13 45 (by decide) (hnd 13 (by kernel_rfl)) rfl
                rw [e]; exact congrArg some h
              go_simp
              exact hK _ _ (by first | rfl | (show _ = _; simp)) trivial (hS.same (by decide) (by decide))
            · intro L vs A' u hW hL0 hnd K' hK
              have hS := hW.wi.s
              have r31 : A'.tmps[31]? = some (.tuple #[iv p, iv q]) := by
                obtain ⟨x, e, h⟩ := hW.tel 14 31 (by decide) (hnd 14 (by kernel_rfl)) rfl
                rw [e]; exact congrArg some h
              go_simp
              exact hK _ _ (by first | rfl | (show _ = _; simp)) trivial (hS.same (by decide) (by decide))
            · intro L vs A' u hW hL0 hnd K' hK
              have hS := hW.wi.s
              have r31 : A'.tmps[31]? = some (.tuple #[iv p, iv q]) := by
                obtain ⟨x, e, h⟩ := hW.tel 14 31 (by decide) (hnd 14 (by kernel_rfl)) rfl
                rw [e]; exact congrArg some h
              go_simp
              exact hK _ _ (by first | rfl | (show _ = _; simp)) trivial (hS.same (by decide) (by decide))
            · intro L vs A' u hW hL0 hnd K' hK
              have hS := hW.wi.s
              have r32 : A'.tmps[32]? = some (.slice (some ⟨b1, 0, none⟩) n n) := by
                obtain ⟨x, e, h⟩ := hW.tel 0 32 (by decide) (hnd 0 (by kernel_rfl)) rfl
                rw [e]; exact congrArg some h
              have r33 : A'.tmps[33]? = some (iv j) := by
                obtain ⟨x, e, h⟩ := hW.tel 1 33 (by decide) (hnd 1 (by kernel_rfl)) rfl
                rw [e]; exact congrArg some h
              go_simp
              exact hK _ _ (by first | rfl | (show _ = _; simp)) trivial (hS.same (by decide) (by decide))
            · intro L vs A' u hW hL0 hnd K' hK
              have hS := hW.wi.s
              have r48 : A'.tmps[48]? = some (.pointer (some ⟨b1, j, none⟩)) := by
                obtain ⟨x, e, h⟩ := hW.tel 17 48 (by decide) (hnd 17 (by kernel_rfl)) rfl
                rw [e]; exact congrArg some h
              have r46 : A'.tmps[46]? = some (iv p) := by
                obtain ⟨x, e, h⟩ := hW.tel 15 46 (by decide) (hnd 15 (by kernel_rfl)) rfl
                rw [e]; exact congrArg some h
              obtain ⟨v0, hv0⟩ := HZ1.out
              have hf := (hS.o1 hL0).frozen j
              have hc := ((hS.o1 hL0).cell j).trans hv0
              go_simp
              exact hK undef _ trivial trivial (hS.store1 HNE.out hL0 HS1.out)
            · intro L vs A' u hW hL0 hnd K' hK
              have hS := hW.wi.s
              have r34 : A'.tmps[34]? = some (.slice (some ⟨b2, 0, none⟩) n n) := by
                obtain ⟨x, e, h⟩ := hW.tel 2 34 (by decide) (hnd 2 (by kernel_rfl)) rfl
                rw [e]; exact congrArg some h
              have r35 : A'.tmps[35]? = some (iv j) := by
                obtain ⟨x, e, h⟩ := hW.tel 3 35 (by decide) (hnd 3 (by kernel_rfl)) rfl
                rw [e]; exact congrArg some h
              go_simp
              exact hK _ _ (by first | rfl | (show _ = _; simp)) trivial (hS.same (by decide) (by decide))
            · intro L vs A' u hW hL0 hnd K' hK
              have hS := hW.wi.s
              have r49 : A'.tmps[49]? = some (.pointer (some ⟨b2, j, none⟩)) := by
                obtain ⟨x, e, h⟩ := hW.tel 19 49 (by decide) (hnd 19 (by kernel_rfl)) rfl
                rw [e]; exact congrArg some h
              have r47 : A'.tmps[47]? = some (iv q) := by
                obtain ⟨x, e, h⟩ := hW.tel 16 47 (by decide) (hnd 16 (by kernel_rfl)) rfl
                rw [e]; exact congrArg some h
              obtain ⟨v0, hv0⟩ := HZ2.out
              have hf := (hS.o2 hL0).frozen j
              have hc := ((hS.o2 hL0).cell j).trans hv0
              go_simp
              exact hK undef _ trivial trivial (hS.store2 HNE.out hL0 HS2.out)
          case doneA =>
            intro L vs u9 hS hP hall
            have e0 : vs 0 = .slice (some ⟨b1, 0, none⟩) n n := hP 0 (by decide)
            have e1 : vs 1 = iv j := hP 1 (by decide)
            have e2 : vs 2 = .slice (some ⟨b2, 0, none⟩) n n := hP 2 (by decide)
            have e3 : vs 3 = iv j := hP 3 (by decide)
            have e4 : vs 4 = .func (.func k) #[] #[] := hP 4 (by decide)
            have e5 : vs 5 = .slice (some ad) n c := hP 5 (by decide)
            have e6 : vs 6 = iv j := hP 6 (by decide)
            have e7 : vs 7 = .pointer (some (ad.add j)) := hP 7 (by decide)
            have e8 : vs 8 = iv x := hP 8 (by decide)
            have e9 : vs 9 = .slice (some bd) n d := hP 9 (by decide)
            have e10 : vs 10 = iv j := hP 10 (by decide)
            have e11 : vs 11 = .pointer (some (bd.add j)) := hP 11 (by decide)
            have e12 : vs 12 = iv y := hP 12 (by decide)
            have e13 : vs 13 = .tuple #[iv p, iv q] := hP 13 (by decide)
            have e14 : vs 14 = .tuple #[iv p, iv q] := hP 14 (by decide)
            have e15 : vs 15 = iv p := hP 15 (by decide)
            have e16 : vs 16 = iv q := hP 16 (by decide)
            have e17 : vs 17 = .pointer (some ⟨b1, j, none⟩) := hP 17 (by decide)
            have e19 : vs 19 = .pointer (some ⟨b2, j, none⟩) := hP 19 (by decide)
            simp only [putV, List.foldl_cons, List.foldl_nil, List.setIfInBounds_toArray, List.set_cons_zero, List.set_cons_succ, e0, e1, e2, e3, e4, e5, e6, e7, e8, e9, e10, e11, e12, e13, e14, e15, e16, e17, e19]
            have X1 := Lib.hid (hS.n1 (hall 18 (by decide)))
            have X2 := Lib.hid (hS.n2 (hall 20 (by decide)))
            have XO := Lib.hid (HOr.out.then hS.only (fun k e => .inr (by omega)))
            clear hS e0 e1 e2 e3 e4 e5 e6 e7 e8 e9 e10 e11 e12 e13 e14 e15 e16 e17 e19 hP hall fr_A
            go_wp2
            go_roundw
            case rel => exact ⟨⟨j + 1, hlt, by go_num, by rw [HE1.out]; exact X1.out, by rw [HE2.out]; exact X2.out⟩, XO.out⟩
            case measure => simp [intOf]; omega
        · obtain rfl : j = n := by omega
          have hr1 := HR1.out
          have hr2 := HR2.out
          have eF : rowC (List.zipWith f xs ys) j = ((List.zipWith f xs ys).map iv).toArray := by
            rw [show rowC (List.zipWith f xs ys) j = rowC (List.zipWith f xs ys) (List.zipWith f xs ys).length by rw [hlF], rowC_all]
          have eG : rowC (List.zipWith g xs ys) j = ((List.zipWith g xs ys).map iv).toArray := by
            rw [show rowC (List.zipWith g xs ys) j = rowC (List.zipWith g xs ys) (List.zipWith g xs ys).length by rw [hlG], rowC_all]
          rw [eF] at hr1
          rw [eG] at hr2
          have I1 := Lib.hid (ISrc.of_box hr1 hlF (Nat.le_refl j) (by omega) (HFF.out))
          have I2 := Lib.hid (ISrc.of_box hr2 hlG (Nat.le_refl j) (by omega) (HFG.out))
          clear hr1 hr2 eF eG HR1 HR2
          have HFin : Hid (TnR w 0 (List.zipWith f xs ys) (List.zipWith g xs ys) (.returned (.tuple #[.slice (some ⟨b1, 0, none⟩) j j, .slice (some ⟨b2, 0, none⟩) j j, iv 0])) wr) := Lib.hid
            ⟨⟨_, j, _, j, by rw [hlF, hlG], by rw [hlF]; exact I1.out, by rw [hlG]; exact I2.out⟩, HOr.out⟩
          go_wp2
          refine bodyPost_ret (v := .tuple #[.slice (some ⟨b1, 0, none⟩) j j, .slice (some ⟨b2, 0, none⟩) j j, iv 0]) ?_ rfl HFin.out
          simp [results, Try.f17, go_sem]
    · have q2 := ((Box.new W1 3 (madeCells #[.int .i64 0] n)).alloc (.cells (madeCells #[.int .i64 0] n) 3)).drew
      have q1 := (Box.new (W1.alloc (.cells (madeCells #[.int .i64 0] n) 3)) 3 (madeCells #[.int .i64 0] n)).drew
      rw [World.size_alloc] at q1
      have q3 := (((Only.refl Nix W1).alloc (.cells (madeCells #[.int .i64 0] n) 3)).alloc (.cells (madeCells #[.int .i64 0] n) 3)).drew
      generalize ((W1.alloc (.cells (madeCells #[.int .i64 0] n) 3)).alloc (.cells (madeCells #[.int .i64 0] n) 3)).drew = U at *
      have HB1 : Hid (Box U (W1.heap.size + 1) 3 (rowC (List.zipWith f xs ys) 0)) := Lib.hid (by rw [← made_row _ n hlF]; exact q1)
      have HB2 : Hid (Box U (W1.heap.size) 3 (rowC (List.zipWith g xs ys) 0)) := Lib.hid (by rw [← made_row _ n hlG]; exact q2)
      have HO := Lib.hid (HA.out.trans q3)
      have hge := HA.out.size
      clear q1 q2 q3 hW1
      obtain ⟨b1, hb1⟩ : ∃ b, W1.heap.size + 1 = b := ⟨_, rfl⟩
      obtain ⟨b2, hb2⟩ : ∃ b, W1.heap.size = b := ⟨_, rfl⟩
      have hne : b1 ≠ b2 := by omega
      have hg1 : w.heap.size ≤ b1 := by omega
      have hg2 : w.heap.size ≤ b2 := by omega
      rw [hb1] at HB1
      rw [hb2] at HB2
      rw [hb1, hb2]
      clear hb1 hb2 hge HCk
      go_wp2
      go_loopw [28] (fun s28 wr => TnL w b1 b2 n (List.zipWith f xs ys) (List.zipWith g xs ys) s28 wr) (fun s28 _ => n - (intOf s28).toNat)
      case atStart => exact ⟨⟨0, Nat.zero_le _, rfl, HB1.out, HB2.out⟩, HO.out⟩
      case round =>
        obtain ⟨⟨j, hj, rfl, hr1, hr2⟩, hO⟩ := hrel
        have HR1 := Lib.hid hr1
        have HR2 := Lib.hid hr2
        have HOr := Lib.hid hO
        clear hr1 hr2 hO HB1 HB2 HO
        by_cases hlt : j < n
        · have hltx : j < xs.length := by rw [← Hxl.out]; exact hlt
          have hlty : j < ys.length := by rw [← Hyl.out]; exact hlt
          obtain ⟨ad, rfl, hcx⟩ := (HX.out.nix HOr.out).at_ hltx
          obtain ⟨bd, rfl, hcy⟩ := (HY.out.nix HOr.out).at_ hlty
          have hlti : (j : Int) < (n : Int) := by omega
          have hnx := HXY.out.1 _ (List.getElem_mem hltx)
          have hny := HXY.out.2 _ (List.getElem_mem hlty)
          have HT := Lib.hid (fun u => hT u xs[j] ys[j] hnx hny)
          have HS1 := Lib.hid (rowC_set (List.zipWith f xs ys) j (by rw [hlF]; exact hlt))
          have HS2 := Lib.hid (rowC_set (List.zipWith g xs ys) j (by rw [hlG]; exact hlt))
          rw [List.getElem_zipWith] at HS1 HS2
          have hbx : ¬ (fun k => k = b1 ∨ k = b2) (ad.add j).block := by
            rw [add_block]
            have := HX.out.blk ad n c rfl (by omega)
            show ¬ (ad.block = b1 ∨ ad.block = b2)
            omega
          have hby : ¬ (fun k => k = b1 ∨ k = b2) (bd.add j).block := by
            rw [add_block]
            have := HY.out.blk bd n d rfl (by omega)
            show ¬ (bd.block = b1 ∨ bd.block = b2)
            omega
          have HBX := Lib.hid hbx
          have HBY := Lib.hid hby
          have hsz1 : j < (rowC (List.zipWith f xs ys) j).size := by unfold rowC; simp; omega
          have hsz2 : j < (rowC (List.zipWith g xs ys) j).size := by unfold rowC; simp; omega
          have HZ1 : Hid (∃ v, (rowC (List.zipWith f xs ys) j)[j]? = some v) := Lib.hid ⟨_, Array.getElem?_eq_getElem hsz1⟩
          have HZ2 : Hid (∃ v, (rowC (List.zipWith g xs ys) j)[j]? = some v) := Lib.hid ⟨_, Array.getElem?_eq_getElem hsz2⟩
          generalize f xs[j] ys[j] = p at *
          generalize g xs[j] ys[j] = q at *
          generalize xs[j] = x at *
          generalize ys[j] = y at *
          generalize rowC (List.zipWith f xs ys) j = R1 at *
          generalize rowC (List.zipWith g xs ys) j = R2 at *
          obtain ⟨S1, hS1⟩ : ∃ S1, rowC (List.zipWith f xs ys) (j + 1) = S1 := ⟨_, rfl⟩
          obtain ⟨S2, hS2⟩ : ∃ S2, rowC (List.zipWith g xs ys) (j + 1) = S2 := ⟨_, rfl⟩
          rw [hS1] at HS1
          rw [hS2] at HS2
          have HE1 := Lib.hid hS1
          have HE2 := Lib.hid hS2
          clear hS1 hS2
          have HCX := Lib.hid hcx
          have HCY := Lib.hid hcy
          have HNE := Lib.hid hne
          clear hltx hlty hnx hny hbx hby hsz1 hsz2 hb hcx hcy hlF hlG
          go_wp2_with fail
          have fr_B : ∀ j s, j < 21 → (([some 32, some 33, some 34, some 35, some 36, some 37, some 38, some 39, some 40, some 41, some 42, some 43, some 44, some 45, some 31, some 46, some 47, some 48, none, some 49, none] : List (Option Nat)).all fun d => d != some s) = true → ([some 32, some 33, some 34, some 35, some 36, some 37, some 38, some 39, some 40, some 41, some 42, some 43, some 44, some 45, some 31, some 46, some 47, some 48, none, some 49, none] : List (Option Nat)).getD j none ≠ some s := by
            intro j s hj ha e
            rw [List.getD_eq_getElem?_getD, List.getElem?_eq_getElem (by exact hj), Option.getD_some] at e
            have := List.all_eq_true.1 ha _ (List.getElem_mem (by exact hj))
            rw [e] at this
            simp at this
          refine region_tel (by kernel_rfl) (fun k0 => ([some 32, some 33, some 34, some 35, some 36, some 37, some 38, some 39, some 40, some 41, some 42, some 43, some 44, some 45, some 31, some 46, some 47, some 48, none, some 49, none] : List (Option Nat)).getD k0 none) (PL [eqP (.slice (some ⟨b1, 0, none⟩) n n), eqP (iv j), eqP (.slice (some ⟨b2, 0, none⟩) n n), eqP (iv j), eqP (.func (.func k) #[] #[]), eqP (.slice (some ad) n c), eqP (iv j), eqP (.pointer (some (ad.add j))), eqP (iv x), eqP (.slice (some bd) n d), eqP (iv j), eqP (.pointer (some (bd.add j))), eqP (iv y), eqP (.tuple #[iv p, iv q]), eqP (.tuple #[iv p, iv q]), eqP (iv p), eqP (iv q), eqP (.pointer (some ⟨b1, j, none⟩)), (fun _ _ => True), eqP (.pointer (some ⟨b2, j, none⟩)), (fun _ _ => True)]) (fun _ _ => True) (TwW wr b1 b2 R1 S1 R2 S2) 53 21 rfl (by kernel_rfl) (by kernel_rfl) rfl (by kernel_rfl) (by kernel_rfl) (stab_all ⟨fun _ _ _ h _ => h, fun _ _ _ h _ => h, fun _ _ _ h _ => h, fun _ _ _ h _ => h, fun _ _ _ h _ => h, fun _ _ _ h _ => h, fun _ _ _ h _ => h, fun _ _ _ h _ => h, fun _ _ _ h _ => h, fun _ _ _ h _ => h, fun _ _ _ h _ => h, fun _ _ _ h _ => h, fun _ _ _ h _ => h, fun _ _ _ h _ => h, fun _ _ _ h _ => h, fun _ _ _ h _ => h, fun _ _ _ h _ => h, fun _ _ _ h _ => h, fun _ _ _ h _ => h, fun _ _ _ h _ => h, fun _ _ _ h _ => h, trivial⟩) (⟨(Only.refl _ _).drew, fun _ => HR1.out, (fun e => by cases e), fun _ => HR2.out, (fun e => by cases e)⟩) ?stepsB (fun vs => [(32, vs 0), (33, vs 1), (34, vs 2), (35, vs 3), (36, vs 4), (37, vs 5), (38, vs 6), (39, vs 7), (40, vs 8), (41, vs 9), (42, vs 10), (43, vs 11), (44, vs 12), (45, vs 13), (31, vs 14), (46, vs 15), (47, vs 16), (48, vs 17), (49, vs 19)]) (fun vs => rfl) ?doneB
          case stepsB =>
            refine ⟨?_, ?_, ?_, ?_, ?_, ?_, ?_, ?_, ?_, ?_, ?_, ?_, ?_, ?_, ?_, ?_, ?_, ?_, ?_, ?_, ?_, trivial⟩
            · intro L vs A' u hW hL0 hnd K' hK
              have hS := hW.wi.s
              have r6 : A'.tmps[6]? = some (.slice (some ⟨b1, 0, none⟩) n n) := (hW.out 6 (fun j hj => fr_B j 6 hj (by kernel_rfl))).trans rfl
              go_simp
              exact hK _ _ (by first | rfl | (show _ = _; simp)) trivial (hS.same (by decide) (by decide))
            · intro L vs A' u hW hL0 hnd K' hK
              have hS := hW.wi.s
              have r10 : A'.tmps[10]? = some (iv j) := (hW.out 10 (fun j hj => fr_B j 10 hj (by kernel_rfl))).trans rfl
              go_simp
              exact hK _ _ (by first | rfl | (show _ = _; simp)) trivial (hS.same (by decide) (by decide))
            · intro L vs A' u hW hL0 hnd K' hK
              have hS := hW.wi.s
              have r7 : A'.tmps[7]? = some (.slice (some ⟨b2, 0, none⟩) n n) := (hW.out 7 (fun j hj => fr_B j 7 hj (by kernel_rfl))).trans rfl
              go_simp
              exact hK _ _ (by first | rfl | (show _ = _; simp)) trivial (hS.same (by decide) (by decide))
            · intro L vs A' u hW hL0 hnd K' hK
              have hS := hW.wi.s
              have r10 : A'.tmps[10]? = some (iv j) := (hW.out 10 (fun j hj => fr_B j 10 hj (by kernel_rfl))).trans rfl
              go_simp
              exact hK _ _ (by first | rfl | (show _ = _; simp)) trivial (hS.same (by decide) (by decide))
            · intro L vs A' u hW hL0 hnd K' hK
              have hS := hW.wi.s
              have r0 : A'.tmps[0]? = some (.func (.func k) #[] #[]) := (hW.out 0 (fun j hj => fr_B j 0 hj (by kernel_rfl))).trans rfl
              go_simp
              exact hK _ _ (by first | rfl | (show _ = _; simp)) trivial (hS.same (by decide) (by decide))
            · intro L vs A' u hW hL0 hnd K' hK
              have hS := hW.wi.s
              have r1 : A'.tmps[1]? = some (.slice (some ad) n c) := (hW.out 1 (fun j hj => fr_B j 1 hj (by kernel_rfl))).trans rfl
              go_simp
              exact hK _ _ (by first | rfl | (show _ = _; simp)) trivial (hS.same (by decide) (by decide))
            · intro L vs A' u hW hL0 hnd K' hK
              have hS := hW.wi.s
              have r10 : A'.tmps[10]? = some (iv j) := (hW.out 10 (fun j hj => fr_B j 10 hj (by kernel_rfl))).trans rfl
              go_simp
              exact hK _ _ (by first | rfl | (show _ = _; simp)) trivial (hS.same (by decide) (by decide))
            · intro L vs A' u hW hL0 hnd K' hK
              have hS := hW.wi.s
              have r37 : A'.tmps[37]? = some (.slice (some ad) n c) := by
                obtain ⟨x, e, h⟩ := hW.tel 5 37 (by decide) (hnd 5 (by kernel_rfl)) rfl
                rw [e]; exact congrArg some h
              have r38 : A'.tmps[38]? = some (iv j) := by
                obtain ⟨x, e, h⟩ := hW.tel 6 38 (by decide) (hnd 6 (by kernel_rfl)) rfl
                rw [e]; exact congrArg some h
              go_simp
              exact hK _ _ (by first | rfl | (show _ = _; simp)) trivial (hS.same (by decide) (by decide))
            · intro L vs A' u hW hL0 hnd K' hK
              have hS := hW.wi.s
              have r39 : A'.tmps[39]? = some (.pointer (some (ad.add j))) := by
                obtain ⟨x, e, h⟩ := hW.tel 7 39 (by decide) (hnd 7 (by kernel_rfl)) rfl
                rw [e]; exact congrArg some h
              have hc := cell_only hS.only HCX.out HBX.out
              go_simp
              exact hK _ _ (by first | rfl | (show _ = _; simp)) trivial (hS.same (by decide) (by decide))
            · intro L vs A' u hW hL0 hnd K' hK
              have hS := hW.wi.s
              have r2 : A'.tmps[2]? = some (.slice (some bd) n d) := (hW.out 2 (fun j hj => fr_B j 2 hj (by kernel_rfl))).trans rfl
              go_simp
              exact hK _ _ (by first | rfl | (show _ = _; simp)) trivial (hS.same (by decide) (by decide))
            · intro L vs A' u hW hL0 hnd K' hK
              have hS := hW.wi.s
              have r10 : A'.tmps[10]? = some (iv j) := (hW.out 10 (fun j hj => fr_B j 10 hj (by kernel_rfl))).trans rfl
              go_simp
              exact hK _ _ (by first | rfl | (show _ = _; simp)) trivial (hS.same (by decide) (by decide))
            · intro L vs A' u hW hL0 hnd K' hK
              have hS := hW.wi.s
              have r41 : A'.tmps[41]? = some (.slice (some bd) n d) := by
                obtain ⟨x, e, h⟩ := hW.tel 9 41 (by decide) (hnd 9 (by kernel_rfl)) rfl
                rw [e]; exact congrArg some h
              have r42 : A'.tmps[42]? = some (iv j) := by
                obtain ⟨x, e, h⟩ := hW.tel 10 42 (by decide) (hnd 10 (by kernel_rfl)) rfl
                rw [e]; exact congrArg some h
              go_simp
              exact hK _ _ (by first | rfl | (show _ = _; simp)) trivial (hS.same (by decide) (by decide))
            · intro L vs A' u hW hL0 hnd K' hK
              have hS := hW.wi.s
              have r43 : A'.tmps[43]? = some (.pointer (some (bd.add j))) := by
                obtain ⟨x, e, h⟩ := hW.tel 11 43 (by decide) (hnd 11 (by kernel_rfl)) rfl
                rw [e]; exact congrArg some h
              have hc := cell_only hS.only HCY.out HBY.out
              go_simp
              exact hK _ _ (by first | rfl | (show _ = _; simp)) trivial (hS.same (by decide) (by decide))
            · intro L vs A' u hW hL0 hnd K' hK
              have hS := hW.wi.s
              have r36 : A'.tmps[36]? = some (.func (.func k) #[] #[]) := by
                obtain ⟨x, e, h⟩ := hW.tel 4 36 (by decide) (hnd 4 (by kernel_rfl)) rfl
                rw [e]; exact congrArg some h
              have r40 : A'.tmps[40]? = some (iv x) := by
                obtain ⟨x, e, h⟩ := hW.tel 8 40 (by decide) (hnd 8 (by kernel_rfl)) rfl
                rw [e]; exact congrArg some h
              have r44 : A'.tmps[44]? = some (iv y) := by
                obtain ⟨x, e, h⟩ := hW.tel 12 44 (by decide) (hnd 12 (by kernel_rfl)) rfl
                rw [e]; exact congrArg some h
              have HCL := Lib.hid (HT.out u)
              go_simp
              refine (HCL.out).mono ?_
              rintro _ u' ⟨rfl, rfl⟩
              exact hK _ _ rfl trivial (hS.same (by decide) (by decide))
            · intro L vs A' u hW hL0 hnd K' hK
              have hS := hW.wi.s
              have r45 : A'.tmps[45]? = some (.tuple #[iv p, iv q]) := by
                obtain ⟨x, e, h⟩ := hW.tel 13 45 (by decide) (hnd 13 (by kernel_rfl)) rfl
                rw [e]; exact congrArg some h
              go_simp
              exact hK _ _ (by first | rfl | (show _ = _; simp)) trivial (hS.same (by decide) (by decide))
            · intro L vs A' u hW hL0 hnd K' hK
              have hS := hW.wi.s
              have r31 : A'.tmps[31]? = some (.tuple #[iv p, iv q]) := by
                obtain ⟨x, e, h⟩ := hW.tel 14 31 (by decide) (hnd 14 (by kernel_rfl)) rfl
                rw [e]; exact congrArg some h
              go_simp
              exact hK _ _ (by first | rfl | (show _ = _; simp)) trivial (hS.same (by decide) (by decide))
            · intro L vs A' u hW hL0 hnd K' hK
              have hS := hW.wi.s
              have r31 : A'.tmps[31]? = some (.tuple #[iv p, iv q]) := by
                obtain ⟨x, e, h⟩ := hW.tel 14 31 (by decide) (hnd 14 (by kernel_rfl)) rfl
                rw [e]; exact congrArg some h
              go_simp
              exact hK _ _ (by first | rfl | (show _ = _; simp)) trivial (hS.same (by decide) (by decide))
            · intro L vs A' u hW hL0 hnd K' hK
              have hS := hW.wi.s
              have r32 : A'.tmps[32]? = some (.slice (some ⟨b1, 0, none⟩) n n) := by
                obtain ⟨x, e, h⟩ := hW.tel 0 32 (by decide) (hnd 0 (by kernel_rfl)) rfl
                rw [e]; exact congrArg some h
              have r33 : A'.tmps[33]? = some (iv j) := by
                obtain ⟨x, e, h⟩ := hW.tel 1 33 (by decide) (hnd 1 (by kernel_rfl)) rfl
                rw [e]; exact congrArg some h
              go_simp
              exact hK _ _ (by first | rfl | (show _ = _; simp)) trivial (hS.same (by decide) (by decide))
            · intro L vs A' u hW hL0 hnd K' hK
              have hS := hW.wi.s
              have r48 : A'.tmps[48]? = some (.pointer (some ⟨b1, j, none⟩)) := by
                obtain ⟨x, e, h⟩ := hW.tel 17 48 (by decide) (hnd 17 (by kernel_rfl)) rfl
                rw [e]; exact congrArg some h
              have r46 : A'.tmps[46]? = some (iv p) := by
                obtain ⟨x, e, h⟩ := hW.tel 15 46 (by decide) (hnd 15 (by kernel_rfl)) rfl
                rw [e]; exact congrArg some h
              obtain ⟨v0, hv0⟩ := HZ1.out
              have hf := (hS.o1 hL0).frozen j
              have hc := ((hS.o1 hL0).cell j).trans hv0
              go_simp
              exact hK undef _ trivial trivial (hS.store1 HNE.out hL0 HS1.out)
            · intro L vs A' u hW hL0 hnd K' hK
              have hS := hW.wi.s
              have r34 : A'.tmps[34]? = some (.slice (some ⟨b2, 0, none⟩) n n) := by
                obtain ⟨x, e, h⟩ := hW.tel 2 34 (by decide) (hnd 2 (by kernel_rfl)) rfl
                rw [e]; exact congrArg some h
              have r35 : A'.tmps[35]? = some (iv j) := by
                obtain ⟨x, e, h⟩ := hW.tel 3 35 (by decide) (hnd 3 (by kernel_rfl)) rfl
                rw [e]; exact congrArg some h
              go_simp
              exact hK _ _ (by first | rfl | (show _ = _; simp)) trivial (hS.same (by decide) (by decide))
            · intro L vs A' u hW hL0 hnd K' hK
              have hS := hW.wi.s
              have r49 : A'.tmps[49]? = some (.pointer (some ⟨b2, j, none⟩)) := by
                obtain ⟨x, e, h⟩ := hW.tel 19 49 (by decide) (hnd 19 (by kernel_rfl)) rfl
                rw [e]; exact congrArg some h
              have r47 : A'.tmps[47]? = some (iv q) := by
                obtain ⟨x, e, h⟩ := hW.tel 16 47 (by decide) (hnd 16 (by kernel_rfl)) rfl
                rw [e]; exact congrArg some h
              obtain ⟨v0, hv0⟩ := HZ2.out
              have hf := (hS.o2 hL0).frozen j
              have hc := ((hS.o2 hL0).cell j).trans hv0
              go_simp
              exact hK undef _ trivial trivial (hS.store2 HNE.out hL0 HS2.out)
          case doneB =>
            intro L vs u9 hS hP hall
            have e0 : vs 0 = .slice (some ⟨b1, 0, none⟩) n n := hP 0 (by decide)
            have e1 : vs 1 = iv j := hP 1 (by decide)
            have e2 : vs 2 = .slice (some ⟨b2, 0, none⟩) n n := hP 2 (by decide)
            have e3 : vs 3 = iv j := hP 3 (by decide)
            have e4 : vs 4 = .func (.func k) #[] #[] := hP 4 (by decide)
            have e5 : vs 5 = .slice (some ad) n c := hP 5 (by decide)
            have e6 : vs 6 = iv j := hP 6 (by decide)
            have e7 : vs 7 = .pointer (some (ad.add j)) := hP 7 (by decide)
            have e8 : vs 8 = iv x := hP 8 (by decide)
            have e9 : vs 9 = .slice (some bd) n d := hP 9 (by decide)
            have e10 : vs 10 = iv j := hP 10 (by decide)
            have e11 : vs 11 = .pointer (some (bd.add j)) := hP 11 (by decide)
            have e12 : vs 12 = iv y := hP 12 (by decide)
            have e13 : vs 13 = .tuple #[iv p, iv q] := hP 13 (by decide)
            have e14 : vs 14 = .tuple #[iv p, iv q] := hP 14 (by decide)
            have e15 : vs 15 = iv p := hP 15 (by decide)
            have e16 : vs 16 = iv q := hP 16 (by decide)
            have e17 : vs 17 = .pointer (some ⟨b1, j, none⟩) := hP 17 (by decide)
            have e19 : vs 19 = .pointer (some ⟨b2, j, none⟩) := hP 19 (by decide)
            simp only [putV, List.foldl_cons, List.foldl_nil, List.setIfInBounds_toArray, List.set_cons_zero, List.set_cons_succ, e0, e1, e2, e3, e4, e5, e6, e7, e8, e9, e10, e11, e12, e13, e14, e15, e16, e17, e19]
            have X1 := Lib.hid (hS.n1 (hall 18 (by decide)))
            have X2 := Lib.hid (hS.n2 (hall 20 (by decide)))
            have XO := Lib.hid (HOr.out.then hS.only (fun k e => .inr (by omega)))
            clear hS e0 e1 e2 e3 e4 e5 e6 e7 e8 e9 e10 e11 e12 e13 e14 e15 e16 e17 e19 hP hall fr_B
            go_wp2
            go_roundw
            case rel => exact ⟨⟨j + 1, hlt, by go_num, by rw [HE1.out]; exact X1.out, by rw [HE2.out]; exact X2.out⟩, XO.out⟩
            case measure => simp [intOf]; omega
        · obtain rfl : j = n := by omega
          have hr1 := HR1.out
          have hr2 := HR2.out
          have eF : rowC (List.zipWith f xs ys) j = ((List.zipWith f xs ys).map iv).toArray := by
            rw [show rowC (List.zipWith f xs ys) j = rowC (List.zipWith f xs ys) (List.zipWith f xs ys).length by rw [hlF], rowC_all]
          have eG : rowC (List.zipWith g xs ys) j = ((List.zipWith g xs ys).map iv).toArray := by
            rw [show rowC (List.zipWith g xs ys) j = rowC (List.zipWith g xs ys) (List.zipWith g xs ys).length by rw [hlG], rowC_all]
          rw [eF] at hr1
          rw [eG] at hr2
          have I1 := Lib.hid (ISrc.of_box hr1 hlF (Nat.le_refl j) (by omega) (HFF.out))
          have I2 := Lib.hid (ISrc.of_box hr2 hlG (Nat.le_refl j) (by omega) (HFG.out))
          clear hr1 hr2 eF eG HR1 HR2
          have HFin : Hid (TnR w 0 (List.zipWith f xs ys) (List.zipWith g xs ys) (.returned (.tuple #[.slice (some ⟨b1, 0, none⟩) j j, .slice (some ⟨b2, 0, none⟩) j j, iv 0])) wr) := Lib.hid
            ⟨⟨_, j, _, j, by rw [hlF, hlG], by rw [hlF]; exact I1.out, by rw [hlG]; exact I2.out⟩, HOr.out⟩
          go_wp2
          refine bodyPost_ret (v := .tuple #[.slice (some ⟨b1, 0, none⟩) j j, .slice (some ⟨b2, 0, none⟩) j j, iv 0]) ?_ rfl HFin.out
          simp [results, Try.f17, go_sem]
  · have e1 : tnL f xs ys = [] := if_neg (by rw [hE]; exact h0)
    have e2 : tnL g xs ys = [] := if_neg (by rw [hE]; exact h0)
    rw [e1, e2]
    clear hE e1 e2
    go_enter Try.func17, Try.ntmps17
    go_wp2_with fail
    refine (HCk.out).mono ?_
    rintro e w2 ⟨rfl, rfl⟩
    go_wp2
    refine bodyPost_ret (v := .tuple #[.slice none 0 0, .slice none 0 0, iv E]) ?_ rfl (TnR.bad HA.out)
    simp [results, Try.f17, go_sem]
end Go.Proofs.Ytmnogedkinhljaa
