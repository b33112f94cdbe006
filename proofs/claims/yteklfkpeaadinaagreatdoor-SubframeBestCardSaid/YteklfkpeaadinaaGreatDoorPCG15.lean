/-
  What leastPlan finds is the least: plain mathematics.
-/
import Derived.Test.YteklfkpeaadinaaGreatDoorPCG14
import Derived.Test.YteklfkpeaadinaaGreatDoorPCG10
import Derived.Test.YteklfkpeaadinaaGreatDoorPCG09
import Derived.Test.YteklfkpeaadinaaGreatDoorPCG13
import Derived.Deep.RegionHeld3
namespace Go.Proofs.YteklfkpeaadinaaGreatDoor
open Go.RowKit

/-- a plan that was found -/
def ValidP (s od : Nat) (ns : List Nat) (x : Pl) : Prop := x.1 ≤ 1 ∧ x.2.1 ≤ od ∧ ckP x.2.1 (ns.length + s) s = 0 ∧ CsOk x.1 ((ns.length + s) / 2 ^ x.2.1) s ns (List.range (2 ^ x.2.1)) x.2.2
section
variable {m s od o : Nat} {ns : List Nat} {st st2 : Option Pl}
theorem betterP_cases (st : Option Pl) (x : Pl) : betterP s ns st x = some x ∨ ∃ b, st = some b ∧ betterP s ns st x = some b := by
  cases st with
  | none => exact .inl rfl
  | some b =>
    unfold betterP
    simp only
    split
    · exact .inl rfl
    · exact .inr ⟨b, rfl, rfl⟩
theorem ScanR.valid (h : ScanR m s od ns o st st2) (hm : m ≤ 1) (hv : ∀ x, st = some x → ValidP s od ns x) : ∀ x, st2 = some x → ValidP s od ns x := by
  induction h with
  | over => exact hv
  | part => exact hv
  | bad => exact hv
  | more o st st2 cs ho hp hc _ ih =>
    refine ih (fun x hx => ?_)
    rcases betterP_cases (s := s) (ns := ns) st (m, o, cs) with e | ⟨b, e1, e2⟩
    · rw [e] at hx
      cases hx
      exact ⟨hm, ho, hp, hc⟩
    · rw [e2] at hx
      cases hx
      exact hv _ e1
theorem betterP_le (st : Option Pl) (x : Pl) : ∃ r, betterP s ns st x = some r ∧ plS s ns r ≤ plS s ns x ∧ ∀ b, st = some b → plS s ns r ≤ plS s ns b := by
  cases st with
  | none => exact ⟨x, rfl, Nat.le_refl _, fun b e => by cases e⟩
  | some b =>
    unfold betterP
    simp only
    split
    · rename_i h
      exact ⟨x, rfl, Nat.le_refl _, fun b' e => by cases e; omega⟩
    · rename_i h
      exact ⟨b, rfl, by omega, fun b' e => by cases e; exact Nat.le_refl _⟩
theorem ScanR.mono (h : ScanR m s od ns o st st2) : ∀ b, st = some b → ∃ r, st2 = some r ∧ plS s ns r ≤ plS s ns b := by
  induction h with
  | over => exact fun b e => ⟨b, e, Nat.le_refl _⟩
  | part => exact fun b e => ⟨b, e, Nat.le_refl _⟩
  | bad => exact fun b e => ⟨b, e, Nat.le_refl _⟩
  | more o st st2 cs ho hp hc _ ih =>
    intro b e
    obtain ⟨r, h1, _, h3⟩ := betterP_le (s := s) (ns := ns) st (m, o, cs)
    obtain ⟨r2, h4, h5⟩ := ih r h1
    exact ⟨r2, h4, Nat.le_trans h5 (h3 b e)⟩
theorem csOk_det {S : Nat} {ks : List Nat} {cs cs' : List (Int × Int)} (h : CsOk m S s ns ks cs) (h' : CsOk m S s ns ks cs') : cs = cs' := by
  have e : cs.map some = cs'.map some := h.symm.trans h'
  exact List.map_inj_right (f := some) (fun a b e => by cases e; rfl) |>.1 e
theorem ScanR.finds (h : ScanR m s od ns o st st2) {o2 : Nat} {cs2 : List (Int × Int)} (ho2 : o2 ≤ od) (hc2 : CsOk m ((ns.length + s) / 2 ^ o2) s ns (List.range (2 ^ o2)) cs2)
    (hck : ∀ q, q ≤ o2 → ckP q (ns.length + s) s = 0) (hall : ∀ q, q ≤ o2 → ∀ k, k < 2 ^ q → chp m (pt ((ns.length + s) / 2 ^ q) s ns k) ≠ none) (hle : o ≤ o2) : ∃ r, st2 = some r ∧ plS s ns r ≤ plS s ns (m, o2, cs2) := by
  induction h with
  | over o st h => omega
  | part o st h => exact absurd (hck o hle) h
  | bad o k st hk h => exact absurd h (hall o hle k hk)
  | more o st st2 cs ho hp hc hr ih =>
    by_cases e : o = o2
    · subst e
      obtain rfl := csOk_det hc hc2
      obtain ⟨r, h1, h2, _⟩ := betterP_le (s := s) (ns := ns) st (m, o, cs)
      obtain ⟨r2, h4, h5⟩ := hr.mono r h1
      exact ⟨r2, h4, Nat.le_trans h5 h2⟩
    · exact ih (by omega)
end
theorem csOk_exists (m S s : Nat) (ns : List Nat) : ∀ (ks : List Nat), (∀ k ∈ ks, chp m (pt S s ns k) ≠ none) → ∃ cs, CsOk m S s ns ks cs
  | [], _ => ⟨[], rfl⟩
  | k :: ks, h => by
    obtain ⟨cs, hcs⟩ := csOk_exists m S s ns ks (fun j hj => h j (List.mem_cons_of_mem _ hj))
    cases hd : chp m (pt S s ns k) with
    | none => exact absurd hd (h k (List.mem_cons_self ..))
    | some d =>
      refine ⟨d :: cs, ?_⟩
      unfold CsOk at hcs ⊢
      rw [List.map_cons, List.map_cons, hcs, hd]
theorem chp_may {m : Nat} {ns : List Nat} {d : Int × Int} (h : chp m ns = some d) : mayP d.1 d.2 ns = true := by
  rcases (fold_le (m := m) (ns := ns) (cand m (Lib.bitLen (mxN ns))) none).1 d h with h | ⟨_, h⟩
  · cases h
  · exact h
theorem csOk_get {m S s P : Nat} {ns : List Nat} {cs : List (Int × Int)} (h : CsOk m S s ns (List.range P) cs) : cs.length = P ∧ ∀ k, k < P → chp m (pt S s ns k) = some ((cs.map (·.1)).getD k 0, (cs.map (·.2)).getD k 0) := by
  have hl : cs.length = P := by have := congrArg List.length h; simpa using this.symm
  refine ⟨hl, fun k hk => ?_⟩
  have h1 : ((List.range P).map fun k => chp m (pt S s ns k))[k]? = (cs.map some)[k]? := by unfold CsOk at h; rw [h]
  have hk2 : k < cs.length := by omega
  rw [List.getElem?_map, List.getElem?_range hk, List.getElem?_map, List.getElem?_eq_getElem hk2] at h1
  simp only [Option.map_some, Option.some.injEq] at h1
  rw [h1]
  simp [List.getD_eq_getElem?_getD, hk2]
/-- a plan that was found may be -/
theorem ValidP.fine {s od : Nat} {l : List Int} {x : Pl} (h : ValidP s od (l.map fd) x) (hod : od ≤ 15) (hs : s ≤ 32) (hb : l.length + s ≤ 65535) (hR : ∀ y ∈ l, isR y) :
    Fine x.1 x.2.1 s (2 ^ x.2.1) ((l.length + s) / 2 ^ x.2.1) (x.2.2.map (·.1)) (x.2.2.map (·.2)) l := by
  obtain ⟨h1, h2, h3, h4⟩ := h
  rw [List.length_map] at h3 h4
  obtain ⟨i1, i2⟩ := ckP_zero h3
  obtain ⟨g1, g2⟩ := csOk_get h4
  refine ⟨h1, by omega, hs, rfl, i1, i2, hb, by rw [List.length_map]; exact g1, by rw [List.length_map]; exact g1, fun k k1 k2 => ?_, hR, fun k hk => ?_⟩
  · rw [List.length_map] at k1
    have := chp_isP (g2 k (by omega))
    simpa [List.getD_eq_getElem?_getD, k1] using this
  · exact chp_may (g2 k hk)
theorem Fine.sizeN {m o s P S : Nat} {ps bs l : List Int} (hF : Fine m o s P S ps bs l) : sizeN m o ps bs s l = 6 + szL S s m ps bs (l.map fd) (List.range P) := by
  have hpp : 0 < 2 ^ o := Nat.two_pow_pos o
  have hS : (l.length + s) / 2 ^ o = S := by rw [← hF.eq, ← hF.pw]; exact Nat.mul_div_cancel_left _ hpp
  unfold Go.Proofs.YteklfkpeaadinaaGreatDoor.sizeN
  rw [if_pos hF.sizeE]
  simp only [Int.toNat_natCast]
  rw [hS, hF.pw]
theorem ckP_less {o q b s : Nat} (h : ckP o b s = 0) (hq : q ≤ o) : ckP q b s = 0 := by
  obtain ⟨i1, i2⟩ := ckP_zero h
  obtain ⟨d, rfl⟩ : ∃ d, o = q + d := ⟨o - q, by omega⟩
  have hqq : 0 < 2 ^ q := Nat.two_pow_pos q
  have hdd : 0 < 2 ^ d := Nat.two_pow_pos d
  have e1 : b = 2 ^ q * (2 ^ d * (b / 2 ^ (q + d))) := by
    rw [← Nat.mul_assoc, ← Nat.pow_add, i1]
  have e2 : b / 2 ^ q = 2 ^ d * (b / 2 ^ (q + d)) := by
    conv => lhs; rw [e1]
    exact Nat.mul_div_cancel_left _ hqq
  unfold ckP
  rw [if_neg]
  rintro (h1 | h1)
  · apply h1
    rw [e1]
    exact Nat.mul_mod_right _ _
  · rw [e2] at h1
    have := Nat.le_mul_of_pos_left (b / 2 ^ (q + d)) hdd
    omega
theorem okR_le {p wd x y : Int} (h : okR p wd x) (hy : isR y) (hle : fd y ≤ fd x) : okR p wd y := by
  refine ⟨hy, ?_⟩
  have h2 := h.2
  split
  · rename_i hp
    rw [if_pos hp] at h2
    omega
  · rename_i hp
    rw [if_neg hp] at h2
    exact Nat.le_trans (Nat.div_le_div_right hle) h2
/-- where a block may be written, each part of a lesser Order has a parameter -/
theorem Fine.some {m o s P S : Nat} {ps bs l : List Int} (hF : Fine m o s P S ps bs l) (q : Nat) (hq : q ≤ o) (k : Nat) (hk : k < 2 ^ q) : chp m (pt ((l.length + s) / 2 ^ q) s (l.map fd) k) ≠ none := by
  have hpp : 0 < 2 ^ o := Nat.two_pow_pos o
  have hS : (l.length + s) / 2 ^ o = S := by rw [← hF.eq, ← hF.pw]; exact Nat.mul_div_cancel_left _ hpp
  have hck : ckP o (l.length + s) s = 0 := by
    unfold ckP
    rw [if_neg]
    rw [hS, ← hF.eq, hF.pw]
    have := hF.lt
    simp
    omega
  obtain ⟨i1, i2⟩ := ckP_zero (ckP_less hck hq)
  have hln := pt_len ((l.length + s) / 2 ^ q) s (2 ^ q) (l.map fd) k i2 hk (by rw [List.length_map]; exact i1)
  have hst := (frm_step ((l.length + s) / 2 ^ q) s k i2).1
  have hok := (ok_all S s P ps bs l hF.lt hF.eq).1 ⟨hF.res, hF.may⟩
  have hltP : ∀ y ∈ pt ((l.length + s) / 2 ^ q) s (l.map fd) k, y < 4294967296 := fun y hy => by
    obtain ⟨x, hx, rfl⟩ := List.mem_map.1 (pt_in _ _ _ _ hy)
    exact fd_lt (hF.res x hx)
  rw [pt_map] at *
  have hmx := mxN_mem (ns := (pt ((l.length + s) / 2 ^ q) s l k).map fd) (by omega)
  obtain ⟨x0, hx0, hx0m⟩ := List.mem_map.1 hmx
  obtain ⟨k', hk', hxk⟩ := pt_mem S s P l hF.lt hF.eq (pt_in _ _ _ _ hx0)
  have h0 := hok k' hk' x0 hxk
  have hm : mayP (ps.getD k' 0) (bs.getD k' 0) ((pt ((l.length + s) / 2 ^ q) s l k).map fd) = true :=
    (may_ok _ _ _ (List.length_pos_of_mem hx0) (fun y hy => hF.res y (pt_in _ _ _ _ hy))).2 (fun y hy =>
      okR_le h0 (hF.res y (pt_in _ _ _ _ hy)) (by rw [hx0m]; exact mxN_le _ (List.mem_map_of_mem hy)))
  obtain ⟨c, h1, _⟩ := chp_le hF.m1 (by omega) hltP (hF.isP k' hk') hm
  rw [h1]
  simp
theorem sum_le_sum : ∀ (ks : List Nat) (f g : Nat → Nat), (∀ k ∈ ks, f k ≤ g k) → (ks.map f).sum ≤ (ks.map g).sum
  | [], _, _, _ => Nat.le_refl _
  | k :: ks, f, g, h => by
    rw [List.map_cons, List.map_cons, List.sum_cons, List.sum_cons]
    exact Nat.add_le_add (h k (List.mem_cons_self ..)) (sum_le_sum ks f g (fun j hj => h j (List.mem_cons_of_mem _ hj)))
/-- no plan of no greater Order is less -/
theorem least_le {m o s od P S : Nat} {ps bs l : List Int} (hF : Fine m o s P S ps bs l) (ho : o ≤ od) {st1 st2 : Option Pl} (h0 : ScanR 0 s od (l.map fd) 0 none st1) (h1 : ScanR 1 s od (l.map fd) 0 st1 st2) :
    ∃ x, st2 = some x ∧ ValidP s od (l.map fd) x ∧ plS s (l.map fd) x ≤ sizeN m o ps bs s l := by
  have hpp : 0 < 2 ^ o := Nat.two_pow_pos o
  have hS : (l.length + s) / 2 ^ o = S := by rw [← hF.eq, ← hF.pw]; exact Nat.mul_div_cancel_left _ hpp
  have hck : ckP o (l.length + s) s = 0 := by
    unfold ckP
    rw [if_neg]
    rw [hS, ← hF.eq, hF.pw]
    have := hF.lt
    simp
    omega
  obtain ⟨cs, hcs⟩ := csOk_exists m ((l.length + s) / 2 ^ o) s (l.map fd) (List.range (2 ^ o)) (fun k hk => hF.some o (Nat.le_refl _) k (List.mem_range.1 hk))
  have hall : ∀ q, q ≤ o → ∀ k, k < 2 ^ q → chp m (pt (((l.map fd).length + s) / 2 ^ q) s (l.map fd) k) ≠ none := fun q hq k hk => by
    rw [List.length_map]
    exact hF.some q hq k hk
  have hcks : ∀ q, q ≤ o → ckP q ((l.map fd).length + s) s = 0 := fun q hq => by
    rw [List.length_map]
    exact ckP_less hck hq
  have hcs2 : CsOk m (((l.map fd).length + s) / 2 ^ o) s (l.map fd) (List.range (2 ^ o)) cs := by
    rw [List.length_map]
    exact hcs
  have hle : plS s (l.map fd) (m, o, cs) ≤ Go.Proofs.YteklfkpeaadinaaGreatDoor.sizeN m o ps bs s l := by
    rw [hF.sizeN]
    unfold plS szL
    simp only
    rw [List.length_map, hS, hF.pw]
    rw [hS, hF.pw] at hcs
    obtain ⟨g1, g2⟩ := csOk_get hcs
    refine Nat.add_le_add_left (sum_le_sum _ _ _ (fun k hk => ?_)) 6
    have hk' := List.mem_range.1 hk
    have hln := pt_len S s P (l.map fd) k hF.lt hk' (by rw [List.length_map]; exact hF.eq)
    have hst := (frm_step S s k hF.lt).1
    obtain ⟨c, c1, _, _, c4⟩ := chp_le hF.m1 (by omega) (fun y hy => by
      obtain ⟨x, hx, rfl⟩ := List.mem_map.1 (pt_in _ _ _ _ hy)
      exact fd_lt (hF.res x hx)) (hF.isP k hk') (hF.may k hk')
    rw [g2 k hk'] at c1
    cases c1
    exact c4
  have hv1 := h0.valid (by omega) (fun x e => by cases e)
  have hv2 := h1.valid (by omega) hv1
  have hm := hF.m1
  have key : ∃ r, st2 = some r ∧ plS s (l.map fd) r ≤ plS s (l.map fd) (m, o, cs) := by
    rcases (show m = 0 ∨ m = 1 by omega) with rfl | rfl
    · obtain ⟨r, e1, e2⟩ := h0.finds ho hcs2 hcks hall (Nat.zero_le _)
      obtain ⟨r2, e3, e4⟩ := h1.mono r e1
      exact ⟨r2, e3, Nat.le_trans e4 e2⟩
    · exact h1.finds ho hcs2 hcks hall (Nat.zero_le _)
  obtain ⟨r, e1, e2⟩ := key
  exact ⟨r, e1, hv2 r e1, Nat.le_trans e2 hle⟩
end Go.Proofs.YteklfkpeaadinaaGreatDoor
namespace Go.Proofs.YteklfkpeaadinaaGreatDoor
open Go.RowKit

/-- a small residual -/
def Sm (x : Int) : Prop := -4000 ≤ x ∧ x ≤ 4000
theorem Sm.isR {x : Int} (h : Sm x) : isR x := ⟨by unfold Sm at h; omega, by unfold Sm at h; omega⟩
theorem Sm.fd {x : Int} (h : Sm x) : fd x ≤ 8000 := by unfold Sm at h; unfold Go.Proofs.YteklfkpeaadinaaGreatDoor.fd; split <;> omega
theorem Sm.coded {x : Int} (h : Sm x) (p : Nat) : okR (p : Int) 0 x := ⟨h.isR, by
  rw [if_neg (by omega), Int.toNat_natCast]
  have := Nat.div_le_self (Go.Proofs.YteklfkpeaadinaaGreatDoor.fd x) (2 ^ p)
  have := h.fd
  omega⟩
theorem raw_iff (x : Int) (h : Sm x) (wd : Nat) : okR (-1) (wd : Int) x ↔ Lib.bitLen (fd x) ≤ wd := by
  have h1 := h.fd
  unfold okR
  rw [if_pos rfl, Int.toNat_natCast]
  constructor
  · rintro ⟨_, h2⟩
    exact bl_lower _ _ h2
  · intro h2
    exact ⟨h.isR, Nat.lt_of_lt_of_le (bl_upper _ (by omega)) (Nat.pow_le_pow_right (by decide) h2)⟩
theorem bl_mono {a b : Nat} (h : a ≤ b) (hb : b < 18446744073709551616) : Lib.bitLen a ≤ Lib.bitLen b := bl_lower _ _ (Nat.lt_of_le_of_lt h (bl_upper b hb))
/-- the greatest width so far -/
def mxW (l : List Int) : Nat := (l.map fun x => Lib.bitLen (fd x)).foldl max 0
theorem mxW_snoc (l : List Int) (x : Int) : mxW (l ++ [x]) = max (mxW l) (Lib.bitLen (fd x)) := by simp [mxW]
theorem foldl_max_ge : ∀ (l : List Nat) (a : Nat), a ≤ l.foldl max a ∧ ∀ x ∈ l, x ≤ l.foldl max a
  | [], a => ⟨Nat.le_refl _, fun x hx => by cases hx⟩
  | y :: l, a => by
    obtain ⟨h1, h2⟩ := foldl_max_ge l (max a y)
    rw [List.foldl_cons]
    refine ⟨by omega, fun x hx => ?_⟩
    rcases List.mem_cons.1 hx with rfl | hx
    · omega
    · exact h2 x hx
theorem foldl_max_le : ∀ (l : List Nat) (a b : Nat), a ≤ b → (∀ x ∈ l, x ≤ b) → l.foldl max a ≤ b
  | [], _, _, h, _ => h
  | y :: l, a, b, h, hl => by
    rw [List.foldl_cons]
    exact foldl_max_le l (max a y) b (by have := hl y (List.mem_cons_self ..); omega) (fun x hx => hl x (List.mem_cons_of_mem _ hx))
theorem mxW_eq (l : List Int) (h : 0 < l.length) (hs : ∀ x ∈ l, Sm x) : mxW l = Lib.bitLen (mxN (l.map fd)) := by
  have hm := mxN_mem (ns := l.map fd) (by simpa using h)
  obtain ⟨x, hx, e⟩ := List.mem_map.1 hm
  have hb := (hs x hx).fd
  apply Nat.le_antisymm
  · refine foldl_max_le _ _ _ (Nat.zero_le _) (fun w hw => ?_)
    obtain ⟨y, hy, rfl⟩ := List.mem_map.1 hw
    exact bl_mono (mxN_le _ (List.mem_map_of_mem hy)) (by rw [← e]; omega)
  · rw [← e]
    exact (foldl_max_ge _ 0).2 _ (List.mem_map.2 ⟨x, hx, rfl⟩)
/-- how many bits some residuals have by a parameter -/
def cdS (p : Nat) (l : List Int) : Nat := (1 + p) * l.length + hiS p (l.map fd)
theorem cdS_snoc (p : Nat) (l : List Int) (x : Int) : cdS p (l ++ [x]) = cdS p l + (resB p 0 x).length := by
  unfold cdS resB
  rw [if_neg (by omega), List.map_append, List.length_append]
  simp only [List.map_cons, List.map_nil, List.length_singleton]
  rw [hiS_snoc, List.length_append, List.length_append, List.length_replicate, List.length_singleton, bitsN_len, Int.toNat_natCast, Nat.mul_add]
  omega
theorem cdS_bound (p : Nat) (l : List Int) (hp : p ≤ 30) (hs : ∀ x ∈ l, Sm x) : cdS p l ≤ 9000 * l.length := by
  unfold cdS
  have h1 : (1 + p) * l.length ≤ 31 * l.length := Nat.mul_le_mul_right _ (by omega)
  have h2 : hiS p (l.map fd) ≤ 8000 * l.length := by
    clear h1
    induction l with
    | nil => simp [hiS]
    | cons y l ih =>
      have h3 := ih (fun x hx => hs x (List.mem_cons_of_mem _ hx))
      have h4 := (hs y (List.mem_cons_self ..)).fd
      have h5 := Nat.div_le_self (fd y) (2 ^ p)
      unfold hiS at h3 ⊢
      rw [List.map_cons, List.map_cons, List.sum_cons, List.length_cons]
      omega
  omega
def CcP (w : World) (p : Nat) (l : List Int) (s5 s6 : Value) (wr : World) : Prop := ∃ i : Nat, i ≤ l.length ∧ s6 = iv i ∧ s5 = iv (cdS p (l.take i) : Nat) ∧ Only Nix w wr
def CrP (w : World) (l : List Int) (s4 s6 : Value) (wr : World) : Prop := ∃ i : Nat, i ≤ l.length ∧ s6 = iv i ∧ s4 = iv (mxW (l.take i) : Nat) ∧ Only Nix w wr
set_option maxRecDepth 100000 in
set_option maxHeartbeats 2000000 in
theorem costRef_coded {w : World} (A : Option Addr) (n c : Nat) (l : List Int) (p : Nat) (hp : p ≤ 30) (hx : ISrc w (.slice A n c) l) (hn : n ≤ 40) (hs : ∀ x ∈ l, Sm x) :
    Calls Tryz.prog 63 #[.slice A n c, iv p] w fun e w' => e = .returned (.tuple #[iv (cdS p l : Nat), iv 0]) ∧ Only Nix w w' := by
  obtain rfl := hx.len
  have HX := Lib.hid hx
  have HS := Lib.hid hs
  have hp0 : decide ((p : Int) < 0) = false := by simp
  have hp1 : decide ((0 : Int) ≤ (p : Int)) = true := by simp
  clear hx hs
  go_enter Tryz.func63, Tryz.ntmps63
  go_wp2
  go_loopw [7, 8] (fun s7 s8 wr => CcP w p l s7 s8 wr) (fun _ s8 _ => l.length - (intOf s8).toNat)
  case atStart => exact ⟨0, Nat.zero_le _, rfl, by simp [cdS, hiS], Only.refl _ _⟩
  case round =>
    obtain ⟨i, hi, rfl, rfl, ho⟩ := hrel
    by_cases hlt : i < l.length
    · obtain ⟨ad, rfl, hxj⟩ := (HX.out.nix ho).at_ hlt
      have hsm := HS.out _ (List.getElem_mem hlt)
      have hsn := cdS_snoc p (l.take i) l[i]
      rw [← List.take_succ_eq_append_getElem hlt] at hsn
      have hbd := cdS_bound p (l.take i) hp (fun x hx => HS.out x (List.mem_of_mem_take hx))
      rw [List.length_take] at hbd
      have hbd2 := cdS_bound p (l.take (i + 1)) hp (fun x hx => HS.out x (List.mem_of_mem_take hx))
      rw [List.length_take] at hbd2
      rw [hsn] at hbd2
      have Hsn := Lib.hid hsn
      have HOn := Lib.hid (oneRef_any wr l[i] (p : Int) 0 (.inr ⟨by omega, by omega⟩))
      have Hok := Lib.hid (hsm.coded p)
      have HO := Lib.hid ho
      have hlt2 : (i : Int) < (l.length : Int) := by omega
      have hln : l.length ≤ 40 := hn
      generalize l[i] = x at *
      generalize cdS p (l.take i) = C0 at *
      generalize hR : (resB (p : Int) 0 x).length = R at *
      have HR := Lib.hid hR
      clear hsm hsn ho hR
      generalize hN : l.length = N at *
      have HN := Lib.hid hN
      clear hN
      go_wp2_with fail
      refine (HOn.out).mono ?_
      rintro e w1 ⟨v, r, rfl, o1, hy, hno⟩
      cases r with
      | false => exact absurd Hok.out (hno rfl)
      | true =>
        have HY := (hy rfl).2
        have HO1 := Lib.hid (HO.out.trans o1)
        obtain ⟨A1, c1, hv1⟩ := owns_slice HY
        subst hv1
        rw [HR.out]
        clear hy hno HY o1 HOn
        go_wp2
        go_roundw
        case rel => exact ⟨i + 1, by rw [HN.out]; exact hlt, by go_num, by rw [Hsn.out]; go_num, HO1.out⟩
        case measure => simp [intOf]; omega
    · obtain rfl : i = l.length := by omega
      have hlt2 : decide ((l.length : Int) < (l.length : Int)) = false := by simp
      rw [List.take_length]
      go_wp2
      go_ret2
      exact ⟨rfl, ho⟩
def CmQ (w : World) (W : Nat) (s9 : Value) (wr : World) : Prop := ∃ k : Nat, k ≤ W ∧ s9 = iv k ∧ Only Nix w wr
set_option maxRecDepth 100000 in
set_option maxHeartbeats 2000000 in
theorem costRef_raw {w : World} (A : Option Addr) (n c : Nat) (l : List Int) (hx : ISrc w (.slice A n c) l) (hn : n ≤ 40) (hs : ∀ x ∈ l, Sm x) :
    Calls Tryz.prog 63 #[.slice A n c, iv (-1)] w fun e w' => e = .returned (.tuple #[iv (5 + mxW l * n : Nat), iv (mxW l : Nat)]) ∧ Only Nix w w' := by
  obtain rfl := hx.len
  have HX := Lib.hid hx
  have HS := Lib.hid hs
  have hmw : ∀ k, mxW (l.take k) ≤ 13 := fun k => foldl_max_le _ _ _ (Nat.zero_le _) (fun y hy => by
    obtain ⟨x, hx, rfl⟩ := List.mem_map.1 hy
    have := (HS.out x (List.mem_of_mem_take hx)).fd
    exact bl_lower _ 13 (by omega))
  clear hx hs
  go_enter Tryz.func63, Tryz.ntmps63
  go_wp2
  go_loopw [6, 8] (fun s6 s8 wr => CrP w l s6 s8 wr) (fun _ s8 _ => l.length - (intOf s8).toNat)
  case atStart => exact ⟨0, Nat.zero_le _, rfl, by simp [mxW], Only.refl _ _⟩
  case round =>
    obtain ⟨i, hi, rfl, rfl, ho⟩ := hrel
    by_cases hlt : i < l.length
    · obtain ⟨ad, rfl, hxj⟩ := (HX.out.nix ho).at_ hlt
      have hsm := HS.out _ (List.getElem_mem hlt)
      have hsn := mxW_snoc (l.take i) l[i]
      rw [← List.take_succ_eq_append_getElem hlt] at hsn
      have hMb := hmw i
      have hWb : Lib.bitLen (fd l[i]) ≤ 13 := bl_lower _ 13 (by have := hsm.fd; omega)
      have hraw := raw_iff l[i] hsm
      have Hsn := Lib.hid hsn
      have HRaw := Lib.hid hraw
      have HO := Lib.hid ho
      have hlt2 : (i : Int) < (l.length : Int) := by omega
      have hxw := Lib.hid hxj
      generalize l[i] = x at *
      generalize mxW (l.take i) = M at *
      generalize Lib.bitLen (fd x) = W at *
      clear hsm hsn ho hraw hmw hxj
      generalize hN : l.length = N at *
      have HN := Lib.hid hN
      clear hN
      generalize wr = wo at *
      go_wp2
      go_loopw [9] (fun s9 u => CmQ wo W s9 u) (fun s9 _ => W + 1 - (intOf s9).toNat)
      case atStart => exact ⟨0, Nat.zero_le _, rfl, Only.refl _ _⟩
      case round =>
        obtain ⟨k, hk, rfl, hou⟩ := hrel
        have hxk := cell_keep hou hxw.out
        have HOu := Lib.hid hou
        have hOne := Lib.hid (oneRef_any wr x (-1) (k : Int) (.inl ⟨rfl, by omega, by omega⟩))
        have hk32 : (k : Int) < 32 := by omega
        have Hk := Lib.hid (HRaw.out k)
        clear hou
        by_cases hkW : k < W
        · go_wp2_with fail
          refine (hOne.out).mono ?_
          rintro e w1 ⟨v, r, rfl, o1, hy, hno⟩
          cases r with
          | true => exact absurd (Hk.out.1 (hy rfl).1) (by omega)
          | false =>
            have HO1 := Lib.hid (HOu.out.trans o1)
            clear hy hno o1 hOne hxk
            go_wp2
            go_roundw
            case rel => exact ⟨k + 1, hkW, by go_num, HO1.out⟩
            case measure => simp [intOf]; omega
        · obtain rfl : k = W := by omega
          go_wp2_with fail
          refine (hOne.out).mono ?_
          rintro e w1 ⟨v, r, rfl, o1, hy, hno⟩
          cases r with
          | false => exact absurd (Hk.out.2 (Nat.le_refl _)) (hno rfl)
          | true =>
            have HO1 := Lib.hid (HO.out.trans (HOu.out.trans o1))
            clear hy hno o1 hOne hxk
            rcases Nat.lt_trichotomy M k with hMk | hMk | hMk
            · have hmx1 : (M : Int) < (k : Int) := by omega
              go_wp2
              go_roundw
              case rel => exact ⟨i + 1, by rw [HN.out]; exact hlt, by go_num, by rw [Hsn.out]; congr 2; omega, HO1.out⟩
              case measure => simp [intOf]; omega
            · subst hMk
              go_wp2
              go_roundw
              case rel => exact ⟨i + 1, by rw [HN.out]; exact hlt, by go_num, by rw [Hsn.out]; congr 2; omega, HO1.out⟩
              case measure => simp [intOf]; omega
            · have hmx1 : (k : Int) < (M : Int) := by omega
              go_wp2
              go_roundw
              case rel => exact ⟨i + 1, by rw [HN.out]; exact hlt, by go_num, by rw [Hsn.out]; congr 2; omega, HO1.out⟩
              case measure => simp [intOf]; omega
    · obtain rfl : i = l.length := by omega
      have hlt2 : decide ((l.length : Int) < (l.length : Int)) = false := by simp
      have hMb := hmw l.length
      rw [List.take_length] at hMb ⊢
      have hml : mxW l * l.length ≤ 13 * 40 := Nat.mul_le_mul hMb hn
      have hmi : (mxW l : Int) * (l.length : Int) = ((mxW l * l.length : Nat) : Int) := by rw [Int.natCast_mul]
      clear hmw
      obtain ⟨M, hM⟩ : ∃ M, mxW l = M := ⟨_, rfl⟩
      obtain ⟨ML, hML⟩ : ∃ ML, mxW l * l.length = ML := ⟨_, rfl⟩
      have HF := Lib.hid (And.intro hML hM)
      rw [hML] at hml hmi
      rw [hM] at hMb hmi
      rw [hM]
      clear hML hM
      go_wp2
      go_ret2
      rw [HF.out.1, HF.out.2, show ((5 + ML : Nat) : Int) = 5 + (ML : Int) from by omega]
      exact ⟨rfl, ho⟩
end Go.Proofs.YteklfkpeaadinaaGreatDoor
namespace Go.Proofs.YteklfkpeaadinaaGreatDoor
open Go.RowKit

section
variable {m : Nat} {l : List Int}
theorem sm_mx (h : 0 < l.length) (hs : ∀ x ∈ l, Sm x) : mxN (l.map fd) ≤ 8000 := by
  obtain ⟨x, hx, e⟩ := List.mem_map.1 (mxN_mem (ns := l.map fd) (by simpa using h))
  rw [← e]
  exact (hs x hx).fd
theorem sm_may (h : 0 < l.length) (hs : ∀ x ∈ l, Sm x) (p : Nat) : mayP (p : Int) 0 (l.map fd) = true := by
  unfold mayP
  rw [if_neg (by omega), Int.toNat_natCast, decide_eq_true_eq]
  have := Nat.div_le_self (mxN (l.map fd)) (2 ^ p)
  have := sm_mx h hs
  omega
theorem sm_mayR (h : 0 < l.length) (hs : ∀ x ∈ l, Sm x) : mayP (-1) (mxW l : Nat) (l.map fd) = true := by
  unfold mayP
  rw [if_pos rfl, Int.toNat_natCast, decide_eq_true_eq, mxW_eq l h hs]
  have := sm_mx h hs
  exact bl_upper _ (by omega)
theorem sm_szK (p : Nat) : szP m (p : Int) 0 (l.map fd) = 4 + m + cdS p l := by
  unfold szP cdS
  rw [if_neg (by omega), Int.toNat_natCast]
  unfold szK
  rw [List.length_map]
  omega
theorem sm_szR : szP m (-1) (mxW l : Nat) (l.map fd) = 4 + m + (5 + mxW l * l.length) := by
  unfold szP
  rw [if_pos rfl, Int.toNat_natCast]
  unfold szR
  rw [List.length_map]
  omega
theorem mxW_le (hs : ∀ x ∈ l, Sm x) : mxW l ≤ 13 := foldl_max_le _ _ _ (Nat.zero_le _) (fun y hy => by
  obtain ⟨x, hx, rfl⟩ := List.mem_map.1 hy
  have := (hs x hx).fd
  exact bl_lower _ 13 (by omega))
/-- what stands behind the width costs more -/
theorem fdl_stop (h : 0 < l.length) (hs : ∀ x ∈ l, Sm x) : ∀ j, mxW l + 1 ≤ j → fdl m (l.map fd) j = fdl m (l.map fd) (mxW l + 1) := by
  have hW : Lib.bitLen (mxN (l.map fd)) = mxW l := (mxW_eq l h hs).symm
  have hup := bl_upper (mxN (l.map fd)) (by have := sm_mx h hs; omega)
  rw [hW] at hup
  have hz : ∀ q, mxW l ≤ q → hiS q (l.map fd) = 0 := fun q hq => hiS_zero q _ (fun n hn => Nat.lt_of_le_of_lt (mxN_le n hn) (Nat.lt_of_lt_of_le hup (Nat.pow_le_pow_right (by decide) hq)))
  have hsome : ∃ d, fdl m (l.map fd) (mxW l + 1) = some d ∧ szP m d.1 d.2 (l.map fd) ≤ szP m (mxW l : Nat) 0 (l.map fd) :=
    (fold_le (m := m) (ns := l.map fd) ((List.range (mxW l + 1)).map fun (p : Nat) => ((p : Int), (0 : Int))) none).2.2 (((mxW l : Nat) : Int), 0) (List.mem_map.2 ⟨mxW l, List.mem_range.2 (by omega), rfl⟩) (sm_may h hs _)
  intro j hj
  induction j with
  | zero => omega
  | succ j ih =>
    by_cases e : mxW l = j
    · rw [e]
    · rw [fdl_succ, ih (by omega)]
      obtain ⟨d, h1, h2⟩ := hsome
      rw [h1]
      unfold stepC
      rw [if_neg]
      rintro ⟨_, h3⟩
      have h4 := h3 d rfl
      rw [sm_szK] at h2 h4
      unfold cdS at h2 h4
      rw [hz _ (Nat.le_refl _)] at h2
      rw [hz _ (by omega)] at h4
      have := Nat.mul_le_mul_right l.length (show 1 + mxW l ≤ 1 + j by omega)
      omega
theorem ref_chp (h : 0 < l.length) (hs : ∀ x ∈ l, Sm x) : stepC m (l.map fd) (fdl m (l.map fd) (15 + 16 * m)) (-1, (mxW l : Nat)) = chp m (l.map fd) := by
  have hW : Lib.bitLen (mxN (l.map fd)) = mxW l := (mxW_eq l h hs).symm
  have h12 := mxW_le hs
  unfold chp cand
  rw [hW, List.foldl_append, if_pos (by omega), show min (mxW l) (14 + 16 * m) + 1 = mxW l + 1 from by omega, fdl_stop h hs (15 + 16 * m) (by omega)]
  rfl
end
end Go.Proofs.YteklfkpeaadinaaGreatDoor
