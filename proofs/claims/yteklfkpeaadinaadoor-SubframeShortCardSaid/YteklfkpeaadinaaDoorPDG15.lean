/-
  What leastPlan finds is the least: plain mathematics.
-/
import Derived.Test.YteklfkpeaadinaaDoorPDG14
import Derived.Test.YteklfkpeaadinaaDoorPDG10
import Derived.Test.YteklfkpeaadinaaDoorPDG09
import Derived.Test.YteklfkpeaadinaaDoorPDG13
import Derived.Deep.RegionHeld3
namespace Go.Proofs.YteklfkpeaadinaaDoor
open Go.RowKit

/-- a plan that was found -/
def ValidP (s od : Nat) (ns : List Nat) (x : Pl) : Prop := x.1 ≤ 1 ∧ x.2.1 ≤ od ∧ ckP x.2.1 (ns.length + s) s = 0 ∧ CsOk x.1 ((ns.length + s) / 2 ^ x.2.1) s ns (List.range (2 ^ x.2.1)) x.2.2
section
variable {m s od o : Nat} {ns : List Nat} {st st2 : Option Pl}
theorem betterP_cases (st : Option Pl) (x : Pl) : betterP s ns st x = some x ∨ ∃ b, st = some b ∧ betterP s ns st x = some b := by
  cases st with
  | none => exact .inl rfl
  | some b =>
    unfold betterP
    simp only
    split
    · exact .inl rfl
    · exact .inr ⟨b, rfl, rfl⟩
theorem ScanR.valid (h : ScanR m s od ns o st st2) (hm : m ≤ 1) (hv : ∀ x, st = some x → ValidP s od ns x) : ∀ x, st2 = some x → ValidP s od ns x := by
  induction h with
  | over => exact hv
  | part => exact hv
  | bad => exact hv
  | more o st st2 cs ho hp hc _ ih =>
    refine ih (fun x hx => ?_)
    rcases betterP_cases (s := s) (ns := ns) st (m, o, cs) with e | ⟨b, e1, e2⟩
    · rw [e] at hx
      cases hx
      exact ⟨hm, ho, hp, hc⟩
    · rw [e2] at hx
      cases hx
      exact hv _ e1
theorem betterP_le (st : Option Pl) (x : Pl) : ∃ r, betterP s ns st x = some r ∧ plS s ns r ≤ plS s ns x ∧ ∀ b, st = some b → plS s ns r ≤ plS s ns b := by
  cases st with
  | none => exact ⟨x, rfl, Nat.le_refl _, fun b e => by cases e⟩
  | some b =>
    unfold betterP
    simp only
    split
    · rename_i h
      exact ⟨x, rfl, Nat.le_refl _, fun b' e => by cases e; omega⟩
    · rename_i h
      exact ⟨b, rfl, by omega, fun b' e => by cases e; exact Nat.le_refl _⟩
theorem ScanR.mono (h : ScanR m s od ns o st st2) : ∀ b, st = some b → ∃ r, st2 = some r ∧ plS s ns r ≤ plS s ns b := by
  induction h with
  | over => exact fun b e => ⟨b, e, Nat.le_refl _⟩
  | part => exact fun b e => ⟨b, e, Nat.le_refl _⟩
  | bad => exact fun b e => ⟨b, e, Nat.le_refl _⟩
  | more o st st2 cs ho hp hc _ ih =>
    intro b e
    obtain ⟨r, h1, _, h3⟩ := betterP_le (s := s) (ns := ns) st (m, o, cs)
    obtain ⟨r2, h4, h5⟩ := ih r h1
    exact ⟨r2, h4, Nat.le_trans h5 (h3 b e)⟩
theorem csOk_det {S : Nat} {ks : List Nat} {cs cs' : List (Int × Int)} (h : CsOk m S s ns ks cs) (h' : CsOk m S s ns ks cs') : cs = cs' := by
  have e : cs.map some = cs'.map some := h.symm.trans h'
  exact List.map_inj_right (f := some) (fun a b e => by cases e; rfl) |>.1 e
theorem ScanR.finds (h : ScanR m s od ns o st st2) {o2 : Nat} {cs2 : List (Int × Int)} (ho2 : o2 ≤ od) (hc2 : CsOk m ((ns.length + s) / 2 ^ o2) s ns (List.range (2 ^ o2)) cs2)
    (hck : ∀ q, q ≤ o2 → ckP q (ns.length + s) s = 0) (hall : ∀ q, q ≤ o2 → ∀ k, k < 2 ^ q → chp m (pt ((ns.length + s) / 2 ^ q) s ns k) ≠ none) (hle : o ≤ o2) : ∃ r, st2 = some r ∧ plS s ns r ≤ plS s ns (m, o2, cs2) := by
  induction h with
  | over o st h => omega
  | part o st h => exact absurd (hck o hle) h
  | bad o k st hk h => exact absurd h (hall o hle k hk)
  | more o st st2 cs ho hp hc hr ih =>
    by_cases e : o = o2
    · subst e
      obtain rfl := csOk_det hc hc2
      obtain ⟨r, h1, h2, _⟩ := betterP_le (s := s) (ns := ns) st (m, o, cs)
      obtain ⟨r2, h4, h5⟩ := hr.mono r h1
      exact ⟨r2, h4, Nat.le_trans h5 h2⟩
    · exact ih (by omega)
end
theorem csOk_exists (m S s : Nat) (ns : List Nat) : ∀ (ks : List Nat), (∀ k ∈ ks, chp m (pt S s ns k) ≠ none) → ∃ cs, CsOk m S s ns ks cs
  | [], _ => ⟨[], rfl⟩
  | k :: ks, h => by
    obtain ⟨cs, hcs⟩ := csOk_exists m S s ns ks (fun j hj => h j (List.mem_cons_of_mem _ hj))
    cases hd : chp m (pt S s ns k) with
    | none => exact absurd hd (h k (List.mem_cons_self ..))
    | some d =>
      refine ⟨d :: cs, ?_⟩
      unfold CsOk at hcs ⊢
      rw [List.map_cons, List.map_cons, hcs, hd]
theorem chp_may {m : Nat} {ns : List Nat} {d : Int × Int} (h : chp m ns = some d) : mayP d.1 d.2 ns = true := by
  rcases (fold_le (m := m) (ns := ns) (cand m (Lib.bitLen (mxN ns))) none).1 d h with h | ⟨_, h⟩
  · cases h
  · exact h
theorem csOk_get {m S s P : Nat} {ns : List Nat} {cs : List (Int × Int)} (h : CsOk m S s ns (List.range P) cs) : cs.length = P ∧ ∀ k, k < P → chp m (pt S s ns k) = some ((cs.map (·.1)).getD k 0, (cs.map (·.2)).getD k 0) := by
  have hl : cs.length = P := by have := congrArg List.length h; simpa using this.symm
  refine ⟨hl, fun k hk => ?_⟩
  have h1 : ((List.range P).map fun k => chp m (pt S s ns k))[k]? = (cs.map some)[k]? := by unfold CsOk at h; rw [h]
  have hk2 : k < cs.length := by omega
  rw [List.getElem?_map, List.getElem?_range hk, List.getElem?_map, List.getElem?_eq_getElem hk2] at h1
  simp only [Option.map_some, Option.some.injEq] at h1
  rw [h1]
  simp [List.getD_eq_getElem?_getD, hk2]
/-- a plan that was found may be -/
theorem ValidP.fine {s od : Nat} {l : List Int} {x : Pl} (h : ValidP s od (l.map fd) x) (hod : od ≤ 15) (hs : s ≤ 32) (hb : l.length + s ≤ 65535) (hR : ∀ y ∈ l, isR y) :
    Fine x.1 x.2.1 s (2 ^ x.2.1) ((l.length + s) / 2 ^ x.2.1) (x.2.2.map (·.1)) (x.2.2.map (·.2)) l := by
  obtain ⟨h1, h2, h3, h4⟩ := h
  rw [List.length_map] at h3 h4
  obtain ⟨i1, i2⟩ := ckP_zero h3
  obtain ⟨g1, g2⟩ := csOk_get h4
  refine ⟨h1, by omega, hs, rfl, i1, i2, hb, by rw [List.length_map]; exact g1, by rw [List.length_map]; exact g1, fun k k1 k2 => ?_, hR, fun k hk => ?_⟩
  · rw [List.length_map] at k1
    have := chp_isP (g2 k (by omega))
    simpa [List.getD_eq_getElem?_getD, k1] using this
  · exact chp_may (g2 k hk)
theorem Fine.sizeN {m o s P S : Nat} {ps bs l : List Int} (hF : Fine m o s P S ps bs l) : sizeN m o ps bs s l = 6 + szL S s m ps bs (l.map fd) (List.range P) := by
  have hpp : 0 < 2 ^ o := Nat.two_pow_pos o
  have hS : (l.length + s) / 2 ^ o = S := by rw [← hF.eq, ← hF.pw]; exact Nat.mul_div_cancel_left _ hpp
  unfold Go.Proofs.YteklfkpeaadinaaDoor.sizeN
  rw [if_pos hF.sizeE]
  simp only [Int.toNat_natCast]
  rw [hS, hF.pw]
theorem ckP_less {o q b s : Nat} (h : ckP o b s = 0) (hq : q ≤ o) : ckP q b s = 0 := by
  obtain ⟨i1, i2⟩ := ckP_zero h
  obtain ⟨d, rfl⟩ : ∃ d, o = q + d := ⟨o - q, by omega⟩
  have hqq : 0 < 2 ^ q := Nat.two_pow_pos q
  have hdd : 0 < 2 ^ d := Nat.two_pow_pos d
  have e1 : b = 2 ^ q * (2 ^ d * (b / 2 ^ (q + d))) := by
    rw [← Nat.mul_assoc, ← Nat.pow_add, i1]
  have e2 : b / 2 ^ q = 2 ^ d * (b / 2 ^ (q + d)) := by
    conv => lhs; rw [e1]
    exact Nat.mul_div_cancel_left _ hqq
  unfold ckP
  rw [if_neg]
  rintro (h1 | h1)
  · apply h1
    rw [e1]
    exact Nat.mul_mod_right _ _
  · rw [e2] at h1
    have := Nat.le_mul_of_pos_left (b / 2 ^ (q + d)) hdd
    omega
theorem okR_le {p wd x y : Int} (h : okR p wd x) (hy : isR y) (hle : fd y ≤ fd x) : okR p wd y := by
  refine ⟨hy, ?_⟩
  have h2 := h.2
  split
  · rename_i hp
    rw [if_pos hp] at h2
    omega
  · rename_i hp
    rw [if_neg hp] at h2
    exact Nat.le_trans (Nat.div_le_div_right hle) h2
/-- where a block may be written, each part of a lesser Order has a parameter -/
theorem Fine.some {m o s P S : Nat} {ps bs l : List Int} (hF : Fine m o s P S ps bs l) (q : Nat) (hq : q ≤ o) (k : Nat) (hk : k < 2 ^ q) : chp m (pt ((l.length + s) / 2 ^ q) s (l.map fd) k) ≠ none := by
  have hpp : 0 < 2 ^ o := Nat.two_pow_pos o
  have hS : (l.length + s) / 2 ^ o = S := by rw [← hF.eq, ← hF.pw]; exact Nat.mul_div_cancel_left _ hpp
  have hck : ckP o (l.length + s) s = 0 := by
    unfold ckP
    rw [if_neg]
    rw [hS, ← hF.eq, hF.pw]
    have := hF.lt
    simp
    omega
  obtain ⟨i1, i2⟩ := ckP_zero (ckP_less hck hq)
  have hln := pt_len ((l.length + s) / 2 ^ q) s (2 ^ q) (l.map fd) k i2 hk (by rw [List.length_map]; exact i1)
  have hst := (frm_step ((l.length + s) / 2 ^ q) s k i2).1
  have hok := (ok_all S s P ps bs l hF.lt hF.eq).1 ⟨hF.res, hF.may⟩
  have hltP : ∀ y ∈ pt ((l.length + s) / 2 ^ q) s (l.map fd) k, y < 4294967296 := fun y hy => by
    obtain ⟨x, hx, rfl⟩ := List.mem_map.1 (pt_in _ _ _ _ hy)
    exact fd_lt (hF.res x hx)
  rw [pt_map] at *
  have hmx := mxN_mem (ns := (pt ((l.length + s) / 2 ^ q) s l k).map fd) (by omega)
  obtain ⟨x0, hx0, hx0m⟩ := List.mem_map.1 hmx
  obtain ⟨k', hk', hxk⟩ := pt_mem S s P l hF.lt hF.eq (pt_in _ _ _ _ hx0)
  have h0 := hok k' hk' x0 hxk
  have hm : mayP (ps.getD k' 0) (bs.getD k' 0) ((pt ((l.length + s) / 2 ^ q) s l k).map fd) = true :=
    (may_ok _ _ _ (List.length_pos_of_mem hx0) (fun y hy => hF.res y (pt_in _ _ _ _ hy))).2 (fun y hy =>
      okR_le h0 (hF.res y (pt_in _ _ _ _ hy)) (by rw [hx0m]; exact mxN_le _ (List.mem_map_of_mem hy)))
  obtain ⟨c, h1, _⟩ := chp_le hF.m1 (by omega) hltP (hF.isP k' hk') hm
  rw [h1]
  simp
theorem sum_le_sum : ∀ (ks : List Nat) (f g : Nat → Nat), (∀ k ∈ ks, f k ≤ g k) → (ks.map f).sum ≤ (ks.map g).sum
  | [], _, _, _ => Nat.le_refl _
  | k :: ks, f, g, h => by
    rw [List.map_cons, List.map_cons, List.sum_cons, List.sum_cons]
    exact Nat.add_le_add (h k (List.mem_cons_self ..)) (sum_le_sum ks f g (fun j hj => h j (List.mem_cons_of_mem _ hj)))
/-- no plan of no greater Order is less -/
theorem least_le {m o s od P S : Nat} {ps bs l : List Int} (hF : Fine m o s P S ps bs l) (ho : o ≤ od) {st1 st2 : Option Pl} (h0 : ScanR 0 s od (l.map fd) 0 none st1) (h1 : ScanR 1 s od (l.map fd) 0 st1 st2) :
    ∃ x, st2 = some x ∧ ValidP s od (l.map fd) x ∧ plS s (l.map fd) x ≤ sizeN m o ps bs s l := by
  have hpp : 0 < 2 ^ o := Nat.two_pow_pos o
  have hS : (l.length + s) / 2 ^ o = S := by rw [← hF.eq, ← hF.pw]; exact Nat.mul_div_cancel_left _ hpp
  have hck : ckP o (l.length + s) s = 0 := by
    unfold ckP
    rw [if_neg]
    rw [hS, ← hF.eq, hF.pw]
    have := hF.lt
    simp
    omega
  obtain ⟨cs, hcs⟩ := csOk_exists m ((l.length + s) / 2 ^ o) s (l.map fd) (List.range (2 ^ o)) (fun k hk => hF.some o (Nat.le_refl _) k (List.mem_range.1 hk))
  have hall : ∀ q, q ≤ o → ∀ k, k < 2 ^ q → chp m (pt (((l.map fd).length + s) / 2 ^ q) s (l.map fd) k) ≠ none := fun q hq k hk => by
    rw [List.length_map]
    exact hF.some q hq k hk
  have hcks : ∀ q, q ≤ o → ckP q ((l.map fd).length + s) s = 0 := fun q hq => by
    rw [List.length_map]
    exact ckP_less hck hq
  have hcs2 : CsOk m (((l.map fd).length + s) / 2 ^ o) s (l.map fd) (List.range (2 ^ o)) cs := by
    rw [List.length_map]
    exact hcs
  have hle : plS s (l.map fd) (m, o, cs) ≤ Go.Proofs.YteklfkpeaadinaaDoor.sizeN m o ps bs s l := by
    rw [hF.sizeN]
    unfold plS szL
    simp only
    rw [List.length_map, hS, hF.pw]
    rw [hS, hF.pw] at hcs
    obtain ⟨g1, g2⟩ := csOk_get hcs
    refine Nat.add_le_add_left (sum_le_sum _ _ _ (fun k hk => ?_)) 6
    have hk' := List.mem_range.1 hk
    have hln := pt_len S s P (l.map fd) k hF.lt hk' (by rw [List.length_map]; exact hF.eq)
    have hst := (frm_step S s k hF.lt).1
    obtain ⟨c, c1, _, _, c4⟩ := chp_le hF.m1 (by omega) (fun y hy => by
      obtain ⟨x, hx, rfl⟩ := List.mem_map.1 (pt_in _ _ _ _ hy)
      exact fd_lt (hF.res x hx)) (hF.isP k hk') (hF.may k hk')
    rw [g2 k hk'] at c1
    cases c1
    exact c4
  have hv1 := h0.valid (by omega) (fun x e => by cases e)
  have hv2 := h1.valid (by omega) hv1
  have hm := hF.m1
  have key : ∃ r, st2 = some r ∧ plS s (l.map fd) r ≤ plS s (l.map fd) (m, o, cs) := by
    rcases (show m = 0 ∨ m = 1 by omega) with rfl | rfl
    · obtain ⟨r, e1, e2⟩ := h0.finds ho hcs2 hcks hall (Nat.zero_le _)
      obtain ⟨r2, e3, e4⟩ := h1.mono r e1
      exact ⟨r2, e3, Nat.le_trans e4 e2⟩
    · exact h1.finds ho hcs2 hcks hall (Nat.zero_le _)
  obtain ⟨r, e1, e2⟩ := key
  exact ⟨r, e1, hv2 r e1, Nat.le_trans e2 hle⟩
end Go.Proofs.YteklfkpeaadinaaDoor
namespace Go.Proofs.YteklfkpeaadinaaDoor
open Go.RowKit

end Go.Proofs.YteklfkpeaadinaaDoor
namespace Go.Proofs.YteklfkpeaadinaaDoor
open Go.RowKit

end Go.Proofs.YteklfkpeaadinaaDoor
