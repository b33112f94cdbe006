/-
  leastPlan.
-/
import Derived.Test.YteklfkpeaadinaaGreatDoorPCG13
import Derived.Test.YteklfkpeaadinaaGreatDoorPCG08
import Derived.WalkMore
import Derived.OwnWalkIn
import Derived.Deep.AppendLies
import Derived.Lib.SliceRun
import Derived.Laws.EntriesVeiled
namespace Go.Proofs.YteklfkpeaadinaaGreatDoor
open Go.RowKit Go.Shelf
attribute [local go_sem] Oper.semAt_some
theorem arr_form (t : Array Value) (h : t.size = 81) : ∃ us : Nat → Value, t = #[us 0, us 1, us 2, us 3, us 4, us 5, us 6, us 7, us 8, us 9, us 10, us 11, us 12, us 13, us 14, us 15, us 16, us 17, us 18, us 19, us 20, us 21, us 22, us 23, us 24, us 25, us 26, us 27, us 28, us 29, us 30, us 31, us 32, us 33, us 34, us 35, us 36, us 37, us 38, us 39, us 40, us 41, us 42, us 43, us 44, us 45, us 46, us 47, us 48, us 49, us 50, us 51, us 52, us 53, us 54, us 55, us 56, us 57, us 58, us 59, us 60, us 61, us 62, us 63, us 64, us 65, us 66, us 67, us 68, us 69, us 70, us 71, us 72, us 73, us 74, us 75, us 76, us 77, us 78, us 79, us 80] := by
  refine ⟨fun k => t.getD k undef, ?_⟩
  have e : t = ((List.range 81).map (fun k => t.getD k undef)).toArray := by
    apply Array.ext
    · simp [h]
    · intro i h1 h2
      simp [Array.getD, h1]
  exact e.trans rfl
/-- a plan: its Method, its Order, its parts -/
abbrev Pl := Nat × Nat × List (Int × Int)
def plS (s : Nat) (ns : List Nat) (x : Pl) : Nat := 6 + szL ((ns.length + s) / 2 ^ x.2.1) s x.1 (x.2.2.map (·.1)) (x.2.2.map (·.2)) ns (List.range (2 ^ x.2.1))
def betterP (s : Nat) (ns : List Nat) (st : Option Pl) (x : Pl) : Option Pl :=
  match st with
  | none => some x
  | some b => if plS s ns x < plS s ns b then some x else some b
/-- the best ones of some parts -/
def CsOk (m S s : Nat) (ns : List Nat) (ks : List Nat) (cs : List (Int × Int)) : Prop := ks.map (fun k => chp m (pt S s ns k)) = cs.map some
/-- how many bits some parts have -/
def szZ (m S s : Nat) (ns : List Nat) (ks : List Nat) (cs : List (Int × Int)) : Nat := ((ks.zip cs).map fun kc => szP m kc.2.1 kc.2.2 (pt S s ns kc.1)).sum
theorem szZ_snoc (m S s : Nat) (ns ks : List Nat) (cs : List (Int × Int)) (k : Nat) (d : Int × Int) (h : ks.length = cs.length) : szZ m S s ns (ks ++ [k]) (cs ++ [d]) = szZ m S s ns ks cs + szP m d.1 d.2 (pt S s ns k) := by
  unfold szZ
  rw [List.zip_append h]
  simp
theorem szZ_range (m S s P : Nat) (ns : List Nat) (cs : List (Int × Int)) (h : cs.length = P) : szZ m S s ns (List.range P) cs = szL S s m (cs.map (·.1)) (cs.map (·.2)) ns (List.range P) := by
  unfold szZ szL
  congr 1
  apply List.ext_getElem
  · simp [h]
  · intro i h1 h2
    have hi : i < cs.length := by simp at h1; omega
    simp [List.getD_eq_getElem?_getD, hi]
theorem szZ_bound {m S s P : Nat} {ns : List Nat} (hm : m ≤ 1) (hS : s < S) (hP : P * S = ns.length + s) (hlt : ∀ n ∈ ns, n < 4294967296) : ∀ (ks : List Nat) (cs : List (Int × Int)), (∀ k ∈ ks, k < P) → (∀ c ∈ cs, isP m c.1 c.2) → szZ m S s ns ks cs ≤ 4294967400 * (ks.length * S)
  | [], _, _, _ => by simp [szZ]
  | _ :: _, [], _, _ => by simp [szZ]
  | k :: ks, c :: cs, hk, hc => by
    have ih := szZ_bound hm hS hP hlt ks cs (fun j hj => hk j (List.mem_cons_of_mem _ hj)) (fun d hd => hc d (List.mem_cons_of_mem _ hd))
    have hl := pt_len S s P ns k hS (hk k (List.mem_cons_self ..)) hP
    have hst := (frm_step S s k hS).1
    have hw := frm_width S s k
    have h2 := szP_bound m c.1 c.2 (pt S s ns k) hm (hc c (List.mem_cons_self ..)) (by rw [hl]; omega) (fun y hy => hlt y (List.mem_of_mem_drop (List.mem_of_mem_take hy)))
    rw [hl] at h2
    have h3 := Nat.mul_le_mul_left 4294967400 hw
    unfold szZ at ih ⊢
    rw [List.zip_cons_cons, List.map_cons, List.sum_cons, List.length_cons]
    have e : (ks.length + 1) * S = ks.length * S + S := Nat.succ_mul _ _
    rw [e]
    simp only
    omega
/-- what is found by a Method, from an Order on -/
inductive ScanR (m s od : Nat) (ns : List Nat) : Nat → Option Pl → Option Pl → Prop
  | over (o : Nat) (st : Option Pl) (h : od < o) : ScanR m s od ns o st st
  | part (o : Nat) (st : Option Pl) (h : ckP o (ns.length + s) s ≠ 0) : ScanR m s od ns o st st
  | bad (o k : Nat) (st : Option Pl) (hk : k < 2 ^ o) (h : chp m (pt ((ns.length + s) / 2 ^ o) s ns k) = none) : ScanR m s od ns o st st
  | more (o : Nat) (st st2 : Option Pl) (cs : List (Int × Int)) (h : o ≤ od) (hp : ckP o (ns.length + s) s = 0) (hc : CsOk m ((ns.length + s) / 2 ^ o) s ns (List.range (2 ^ o)) cs) (hr : ScanR m s od ns (o + 1) (betterP s ns st (m, o, cs)) st2) : ScanR m s od ns o st st2
/-- how the best one lies -/
def BestB (W : World) (b : Nat) : Option Pl → Prop
  | none => Box W b 26 #[iv 0, iv 0, .slice none 0 0, .slice none 0 0]
  | some x => ∃ gp gb cp cb, Box W b 26 #[iv x.1, iv x.2.1, .slice (some ⟨gp, 0, none⟩) x.2.2.length cp, .slice (some ⟨gb, 0, none⟩) x.2.2.length cb] ∧
      ISrc W (.slice (some ⟨gp, 0, none⟩) x.2.2.length cp) (x.2.2.map (·.1)) ∧ ISrc W (.slice (some ⟨gb, 0, none⟩) x.2.2.length cb) (x.2.2.map (·.2)) ∧ b < gp ∧ b < gb ∧ 0 < x.2.2.length
def leastV (s : Nat) (ns : List Nat) : Option Pl → Nat
  | none => 0
  | some x => plS s ns x
/-- the marks that loops leave -/
inductive Marks (B : Nat) (W : World) : List Deferred → Prop
  | nil : Marks B W []
  | cons (D : Nat) (ds : List Deferred) (h : W.heap[D]? = some (.deferred (some []))) (hb : B ≤ D) (hn : ∀ d ∈ ds, d.target ≠ .collected D) (hr : Marks B W ds) : Marks B W ({ target := .collected D, args := #[] } :: ds)
theorem Marks.keep {B : Nat} {W W' : World} {ds : List Deferred} (h : Marks B W ds) (hk : ∀ D, Target.collected D ∈ ds.map (·.target) → W'.heap[D]? = W.heap[D]?) : Marks B W' ds := by
  induction h with
  | nil => exact .nil
  | cons D ds h hb hn hr ih =>
    exact .cons D ds ((hk D (by simp)).trans h) hb hn (ih (fun D' hD' => hk D' (by simp at hD' ⊢; exact .inr hD')))
theorem Marks.lt {B : Nat} {W : World} {ds : List Deferred} (h : Marks B W ds) {D : Nat} (hD : Target.collected D ∈ ds.map (·.target)) : W.heap[D]? = some (.deferred (some [])) := by
  induction h with
  | nil => simp at hD
  | cons D' ds h hb hn hr ih =>
    simp at hD
    rcases hD with rfl | hD
    · exact h
    · exact ih (by simpa using hD)
theorem Marks.leave {F : Fence} {k : Nat} {P : Program} {fn : Func} {tmps : Array Value} {R : Ending → World → Prop} {B : Nat} (Inv : World → Prop) (u : FrameMode) (hu : u ≠ .run)
    (hstep : ∀ W D, Inv W → B ≤ D → W.heap[D]? = some (.deferred (some [])) → Inv (W.putObj D (.deferred none))) (hfin : ∀ W, Inv W → LeavesInM F k P fn tmps R [] u W) :
    ∀ {ds : List Deferred} {W : World}, Marks B W ds → Inv W → LeavesInM F k P fn tmps R ds u W := by
  intro ds
  induction ds with
  | nil => exact fun _ hI => hfin _ hI
  | cons d ds ih =>
    intro W h hI
    cases h with
    | cons D _ h hb hn hr =>
      refine ⟨hu, .inl ⟨D, _, rfl, run_takeDeferred h, ih (hr.keep (fun D' hD' => ?_)) (hstep W D hI hb h)⟩⟩
      refine World.putObj_heap_other ?_
      rintro rfl
      obtain ⟨d, hd, e⟩ := List.mem_map.1 hD'
      exact hn d hd e
theorem isrc_put {W : World} {v : Value} {xs : List Int} {D : Nat} (h : ISrc W v xs) {x : Obj} (hK : W.heap[D]? = some x) (hx : x.isCells = false) (o : Obj) : ISrc (W.putObj D o) v xs := by
  obtain ⟨A, c, hv, hc, hf⟩ := h.form
  refine ⟨⟨A, c, hv, hc, fun j hj => ?_⟩, h.small, h.fits⟩
  obtain ⟨ad, hA, he⟩ := hf j hj
  refine ⟨ad, hA, ?_⟩
  rw [World.cell?_of_block (w := W) (World.putObj_heap_other (fun e => ?_))]
  · exact he
  · rw [← e] at hK
    unfold World.cell? at he
    rw [hK] at he
    cases x <;> simp_all [Obj.isCells]
theorem BestB.nix {W W' : World} {b : Nat} {st : Option Pl} (h : BestB W b st) (ho : Only Nix W W') : BestB W' b st := by
  cases st with
  | none => exact Box.only h ho (fun e => e)
  | some x =>
    obtain ⟨gp, gb, cp, cb, h1, h2, h3, h4⟩ := h
    exact ⟨gp, gb, cp, cb, h1.only ho (fun e => e), h2.nix ho, h3.nix ho, h4⟩
theorem BestB.lt {W : World} {b : Nat} {st : Option Pl} (h : BestB W b st) : b < W.heap.size := by
  cases st with
  | none => exact Box.lt h
  | some x =>
    obtain ⟨gp, gb, cp, cb, h1, _⟩ := h
    exact h1.lt
theorem BestB.form {W : World} {b : Nat} {st : Option Pl} (h : BestB W b st) : ∃ (m o : Int) (A A' : Option Addr) (n n' c c' : Nat) (ps bs : List Int), Box W b 26 #[iv m, iv o, .slice A n c, .slice A' n' c'] ∧ ISrc W (.slice A n c) ps ∧ ISrc W (.slice A' n' c') bs ∧
    (st = none → m = 0 ∧ o = 0 ∧ A = none ∧ n = 0 ∧ c = 0 ∧ A' = none ∧ n' = 0 ∧ c' = 0) ∧ (∀ x, st = some x → m = x.1 ∧ o = x.2.1 ∧ ps = x.2.2.map (·.1) ∧ bs = x.2.2.map (·.2) ∧ (∃ g, A = some g)) ∧ (∀ ad, A = some ad ∨ A' = some ad → b < ad.block) := by
  cases st with
  | none => exact ⟨0, 0, none, none, 0, 0, 0, 0, [], [], h, ⟨⟨none, 0, rfl, Nat.le_refl _, fun j hj => by cases hj⟩, by simp, by simp⟩, ⟨⟨none, 0, rfl, Nat.le_refl _, fun j hj => by cases hj⟩, by simp, by simp⟩, (fun _ => ⟨rfl, rfl, rfl, rfl, rfl, rfl, rfl, rfl⟩), (fun x e => by cases e), (fun ad e => by rcases e with e | e <;> cases e)⟩
  | some x =>
    obtain ⟨gp, gb, cp, cb, h1, h2, h3, h4, h5, _⟩ := h
    exact ⟨x.1, x.2.1, _, _, _, _, cp, cb, _, _, h1, h2, h3, (fun e => by cases e), (fun y e => by cases e; exact ⟨rfl, rfl, rfl, rfl, ⟨_, rfl⟩⟩), (fun ad e => by rcases e with e | e <;> cases e <;> assumption)⟩
theorem row_form {W : World} {base n : Nat} {v : Value} {xs : List Value} (h : W.ownsRow base 3 1 v n xs) (hn : 0 < n) : ∃ g c, v = .slice (some ⟨g, 0, none⟩) n c ∧ base ≤ g := by
  rcases h.2 with ⟨_, e⟩ | ⟨g, cap, cur, e, hb, _⟩
  · omega
  · exact ⟨g, cap, e, hb⟩
theorem isrc_row {W : World} {base n g c : Nat} {vs : List Value} {xs : List Int} (h : W.ownsRow base 3 1 (.slice (some ⟨g, 0, none⟩) n c) n vs) (e : vs = xs.map iv) (hf : ∀ x ∈ xs, -9223372036854775808 ≤ x ∧ x ≤ 9223372036854775807) (hn : n ≤ 100000000) : ISrc W (.slice (some ⟨g, 0, none⟩) n c) xs := by
  have hl : xs.length = n := by
    have := h.1
    rw [e, List.length_map] at this
    omega
  have hc : n ≤ c := by
    rcases h.2 with ⟨e, _⟩ | ⟨g', cap, cur, e, _, _, h3, _⟩
    · cases e
    · injection e with _ _ e3; omega
  refine ⟨⟨_, c, by rw [hl], by omega, fun j hj => ⟨_, rfl, ?_⟩⟩, by omega, hf⟩
  refine World.ownsRow.cells h (g := g) rfl j _ ?_
  rw [e, List.getElem?_map, List.getElem?_eq_getElem hj]
  rfl
theorem chp_isP {m : Nat} {ns : List Nat} {d : Int × Int} (h : chp m ns = some d) : isP m d.1 d.2 := by
  rcases (fold_le (m := m) (ns := ns) (cand m (Lib.bitLen (mxN ns))) none).1 d h with h | ⟨h, _⟩
  · cases h
  · unfold cand at h
    rcases List.mem_append.1 h with h | h
    · obtain ⟨q, hq, rfl⟩ := List.mem_map.1 h
      have := List.mem_range.1 hq
      exact .inr ⟨by simp, by show (q : Int) ≤ 14 + 16 * (m : Int); omega, rfl⟩
    · split at h
      · rw [List.mem_singleton] at h
        subst h
        exact .inl ⟨rfl, by simp, by show ((Lib.bitLen (mxN ns) : Nat) : Int) ≤ 31; omega⟩
      · cases h
theorem cs_fit {m S s : Nat} {ns ks : List Nat} {cs : List (Int × Int)} (h : CsOk m S s ns ks cs) : ∀ d ∈ cs, isP m d.1 d.2 ∧ -9223372036854775808 ≤ d.1 ∧ d.1 ≤ 14 + 16 * (m : Int) ∧ -9223372036854775808 ≤ d.2 ∧ d.2 ≤ 9223372036854775807 := fun d hd => by
  have h1 : some d ∈ cs.map some := List.mem_map_of_mem hd
  rw [← h] at h1
  obtain ⟨k, _, hk⟩ := List.mem_map.1 h1
  have h2 := chp_isP hk
  have h3 := h2
  unfold isP at h3
  exact ⟨h2, by omega, by omega, by omega, by omega⟩
theorem best_put {U : World} {b m o P g2 g3 c2 c3 : Nat} {cs : List (Int × Int)} {x0 x1 x2 x3 : Value} (hcl : cs.length = P) (hP : 0 < P) (bx : Box U b 26 #[x0, x1, x2, x3]) (i2 : ISrc U (.slice (some ⟨g2, 0, none⟩) P c2) (cs.map (·.1))) (i3 : ISrc U (.slice (some ⟨g3, 0, none⟩) P c3) (cs.map (·.2))) (h2 : b < g2) (h3 : b < g3) :
    BestB ((((U.setCell ⟨b, 0, none⟩ (.int .i64 m)).setCell ⟨b, 1, none⟩ (.int .i64 o)).setCell ⟨b, 2, none⟩ (.slice (some ⟨g2, 0, none⟩) P c2)).setCell ⟨b, 3, none⟩ (.slice (some ⟨g3, 0, none⟩) P c3)).drew b (some (m, o, cs)) ∧
    Only (fun k => k = b) U ((((U.setCell ⟨b, 0, none⟩ (.int .i64 m)).setCell ⟨b, 1, none⟩ (.int .i64 o)).setCell ⟨b, 2, none⟩ (.slice (some ⟨g2, 0, none⟩) P c2)).setCell ⟨b, 3, none⟩ (.slice (some ⟨g3, 0, none⟩) P c3)).drew := by
  subst hcl
  have ho : Only (fun k => k = b) U ((((U.setCell ⟨b, 0, none⟩ (.int .i64 m)).setCell ⟨b, 1, none⟩ (.int .i64 o)).setCell ⟨b, 2, none⟩ (.slice (some ⟨g2, 0, none⟩) cs.length c2)).setCell ⟨b, 3, none⟩ (.slice (some ⟨g3, 0, none⟩) cs.length c3)).drew :=
    (plan_only (F := fun k => k = b) (Only.refl _ U) (N := b) (.inl rfl) _ _ _ _).drew
  refine ⟨⟨g2, g3, c2, c3, (plan_put bx (.int .i64 m) (.int .i64 o) _ _).only (Only.refl Nix _).drew (fun e => e), i2.only ho (fun i _ hF ad k c' e _ => ?_), i3.only ho (fun i _ hF ad k c' e _ => ?_), h2, h3, hP⟩, ho⟩
  · injection e with e _ _
    injection e with e
    subst e
    rw [hF]
    exact Nat.ne_of_gt h2
  · injection e with e _ _
    injection e with e
    subst e
    rw [hF]
    exact Nat.ne_of_gt h3
/-- one number more, within a fence -/
theorem wpListIn_append_one {F : Fence} {k : Nat} {w : World} {ops : Array Oper} {rest : List Oper} {o : Oper} {a : Act} {Q : Exit → Act → World → Prop} (hg : o.guard = none) (s x : Operand)
    (hop : o.op = Op.call { callee := Callee.builtin Builtin.append, args := #[s, x], argTypes := #[22, 22] })
    (base : Nat) (v : Value) (n : Nat) (xs : List Value) (hs : a.eval s = v) (hown : w.ownsRow base 3 1 v n xs) (H : Nat) (y : Int) (hx : a.eval x = .slice (some ⟨H, 0, none⟩) 1 1) (hc : w.cell? ⟨H, 0, none⟩ = some (iv y)) (hn : n ≤ 100000000) (hb : base ≤ w.heap.size)
    (hK : ∀ g cap w', w'.ownsRow base 3 1 (.slice (some ⟨g, 0, none⟩) (n + 1) cap) (n + 1) (xs ++ [iv y]) → w.grownBy w' v.ownBlock → (v.ownBlock = some g ∨ g = w.heap.size) → wpListIn F k Tryz.prog ops Q rest (a.put o.dst (.slice (some ⟨g, 0, none⟩) (n + 1) cap)) w') :
    wpListIn F k Tryz.prog ops Q (o :: rest) a w := by
  obtain ⟨i0, hi, hz0, hz1, hz2⟩ := info_parts Tryz.info_int
  refine wpListIn_plain hg fun K hK' => ?_
  obtain ⟨g, cap, w', hrun, r1, r2, r3, _⟩ := run_append_lies (P := Tryz.prog) w 22 o.type base 3 i0 (.int .i64 0) 1 8 Tryz.underlying22 hi hz0 hz1 hz2 rfl (by decide) v n xs hown ⟨H, 0, none⟩ 1 1 [iv y] rfl (fun j u hu => by
    obtain rfl : j = 0 := by
      have := (List.getElem?_eq_some_iff.1 hu).1
      simp at this
      omega
    rw [Addr.add_lit, hc]
    simpa using hu) (fun u hu => by simp at hu; subst hu; rfl) (by decide) (by unfold maxLen; omega) (by omega) hb _ rfl
  unfold Oper.wpIn
  refine ⟨?_, ?_⟩
  · simp [Oper.about, hop, resolve, Target.leads, Sem.run_pure]
  · rw [Oper.semAt_plain F _ _ (by rw [hop]; intro c hc'; cases hc')]
    simp [execOp, hop, resolve, invoke, builtin, hs, hx, hrun, Result.andThen]
    exact hK' _ _ (hK g cap w' r1 r2 r3)
/-- what a round turns -/
def FB (b : Nat) (v v' : Value) (k : Nat) : Prop := k = b ∨ k = b + 1 ∨ v.ownBlock = some k ∨ v'.ownBlock = some k
theorem own_cells {W : World} {base n : Nat} {e : TypeId} {v : Value} {xs : List Value} (h : W.ownsRow base e 1 v n xs) {k : Nat} (hk : v.ownBlock = some k) : ∃ t cs, Box W k t cs := by
  rcases h.2 with ⟨rfl, _⟩ | ⟨g, cap, cur, rfl, _, hg, _⟩
  · cases hk
  · injection hk with hk
    subst hk
    exact ⟨_, _, hg⟩
/-- between two parts -/
structure RgI (V0 : World) (pb zb m o S s : Nat) (ns : List Nat) (ks : List Nat) (W : World) : Prop where
  ex : ∃ (cs : List (Int × Int)) (v2 v3 : Value), CsOk m S s ns ks cs ∧ Box W pb 26 #[iv m, iv o, v2, v3] ∧ W.ownsRow V0.heap.size 3 1 v2 cs.length (cs.map fun c => iv c.1) ∧ W.ownsRow V0.heap.size 3 1 v3 cs.length (cs.map fun c => iv c.2) ∧
    (∀ g, v2.ownBlock = some g → v3.ownBlock ≠ some g) ∧ Box W zb 3 #[iv ((6 + szZ m S s ns ks cs : Nat) : Int)]
  only : Only (fun k => k = pb ∨ k = zb) V0 W
structure RgX (V0 : World) (pb zb m S s P : Nat) (ns : List Nat) (cd : Code) (W : World) : Prop where
  cd : cd = .exit 1
  bad : ∃ k, k < P ∧ chp m (pt S s ns k) = none
  only : Only (fun k => k = pb ∨ k = zb) V0 W
theorem row_abide {B b0 : Nat} {X Y : World} {row : Option Nat} {e : TypeId} {v : Value} {n : Nat} {xs : List Value} (h : X.ownsRow b0 e 1 v n xs) (hg : X.grownBy Y row) (hr : ∀ r, row = some r → B ≤ r ∧ ∃ o : Obj, X.heap[r]? = some o ∧ o.isCells = false) : Y.ownsRow b0 e 1 v n xs :=
  h.kept hg (by
    cases hv : v.ownBlock with
    | none => exact .inl rfl
    | some g =>
      refine .inr (fun e2 => ?_)
      obtain ⟨_, x, hx, hc⟩ := hr g e2.symm
      rcases h.2 with ⟨rfl, _⟩ | ⟨g', cap, cur, rfl, _, hg', _⟩
      · cases hv
      · injection hv with hv
        subst hv
        rw [hg'] at hx
        cases hx
        cases hc)
theorem RgI.own {V0 : World} {pb zb m o S s : Nat} {ns : List Nat} {P B : Nat} (hB : V0.heap.size ≤ B) : OwnFrom B (fun (pre : List (Fin P)) W => RgI V0 pb zb m o S s ns (pre.map Fin.val) W) :=
  fun _ _ _ _ hs hg hr => by
    obtain ⟨⟨cs, v2, v3, h1, h2, h3, h4, h5, h6⟩, h7⟩ := hs
    exact ⟨⟨cs, v2, v3, h1, box_abide h2 hg hr, row_abide h3 hg hr, row_abide h4 hg hr, h5, box_abide h6 hg hr⟩, own_only (β := Unit) hB () _ _ _ h7 hg hr⟩
theorem RgX.own {V0 : World} {pb zb m S s P : Nat} {ns : List Nat} {B : Nat} (hB : V0.heap.size ≤ B) (cd : Code) : OwnFrom B (fun (_ : List (Fin P)) W => RgX V0 pb zb m S s P ns cd W) :=
  fun _ _ _ _ hs hg hr => ⟨hs.cd, hs.bad, own_only (β := Unit) hB () _ _ _ hs.only hg hr⟩
/-- leastPlan's answer -/
def LeastR (w : World) (od s : Nat) (ns : List Nat) (e : Ending) (w' : World) : Prop :=
  ∃ (m o : Int) (A A' : Option Addr) (n n' c c' : Nat) (ps bs : List Int) (st1 st2 : Option Pl), e = .returned (planV m o (.slice A n c) (.slice A' n' c')) ∧ ISrc w' (.slice A n c) ps ∧ ISrc w' (.slice A' n' c') bs ∧
    (st2 = none → m = 0 ∧ o = 0 ∧ A = none ∧ n = 0 ∧ c = 0 ∧ A' = none ∧ n' = 0 ∧ c' = 0) ∧ (∀ x, st2 = some x → m = x.1 ∧ o = x.2.1 ∧ ps = x.2.2.map (·.1) ∧ bs = x.2.2.map (·.2) ∧ (∃ g, A = some g)) ∧ (∀ ad, A = some ad ∨ A' = some ad → w.heap.size ≤ ad.block) ∧
    ScanR 0 s od ns 0 none st1 ∧ ScanR 1 s od ns 0 st1 st2 ∧ Only Nix w w'
/-- leastPlan between two rounds -/
structure LpI (w : World) (od s n c : Nat) (A : Option Addr) (ns : List Nat) (st : Option Pl) (a : Act) (W : World) : Prop where
  size : a.tmps.size = 81
  t0 : a.tmps[0]? = some (iv od)
  t1 : a.tmps[1]? = some (iv s)
  t2 : a.tmps[2]? = some (.slice A n c)
  t6 : a.tmps[6]? = some (.pointer (some ⟨w.heap.size, 0, none⟩))
  t7 : a.tmps[7]? = some (.pointer (some ⟨w.heap.size + 1, 0, none⟩))
  t8 : a.tmps[8]? = some (iv (leastV s ns st : Nat))
  marks : Marks w.heap.size W a.defers
  best : BestB W (w.heap.size + 1) st
  res : Box W w.heap.size 26 #[iv 0, iv 0, .slice none 0 0, .slice none 0 0]
  only : Only Nix w W
/-- .. between two of a Method's -/
structure LpJ (w : World) (od s n c : Nat) (A : Option Addr) (ns : List Nat) (st : Option Pl) (m mb o : Nat) (a : Act) (W : World) : Prop where
  i : LpI w od s n c A ns st a W
  t9 : a.tmps[9]? = some (.pointer (some ⟨mb, 0, none⟩))
  t17 : a.tmps[17]? = some (iv m)
  t21 : a.tmps[21]? = some (iv (od + 1 : Nat))
  t22 : a.tmps[22]? = some (iv o)
  mbox : Box W mb 3 #[iv m]
  big : w.heap.size + 1 < mb
structure OutI (w : World) (od s n c : Nat) (A : Option Addr) (ns : List Nat) (a : Act) (W : World) : Prop where
  ex : ∃ (m : Nat) (st : Option Pl), m ≤ 2 ∧ a.tmps[17]? = some (iv m) ∧ LpI w od s n c A ns st a W ∧ (m = 0 → st = none) ∧ (m = 1 → ScanR 0 s od ns 0 none st) ∧ (m = 2 → ∃ st1, ScanR 0 s od ns 0 none st1 ∧ ScanR 1 s od ns 0 st1 st)
structure InI (w : World) (od s n c : Nat) (A : Option Addr) (ns : List Nat) (m mb : Nat) (st : Option Pl) (a : Act) (V : World) : Prop where
  ex : ∃ (o : Nat) (cur : Option Pl), o ≤ od + 1 ∧ LpJ w od s n c A ns cur m mb o a V ∧ ∀ st', ScanR m s od ns o cur st' → ScanR m s od ns 0 st st'
set_option maxRecDepth 100000 in
set_option maxHeartbeats 4000000 in
theorem leastPlan_walk {w : World} (od s : Nat) (ad : Addr) (n c : Nat) (ns : List Nat) (hod : od ≤ 15) (hs : s ≤ 32) (h1 : 1 ≤ ns.length) (hx : ISrc w (.slice (some ad) n c) (ivs ns)) (h6 : n + s ≤ 65535) (hlt : ∀ n ∈ ns, n < 4294967296) :
    Calls Tryz.prog 118 #[iv od, iv s, .slice (some ad) n c] w fun e w' => LeastR w od s ns e w' := by
  have hl := hx.len
  rw [ivs_len] at hl
  subst hl
  have HX := Lib.hid hx
  have HL := Lib.hid hlt
  have o0 := ((Only.refl Nix w).alloc (.cells #[iv 0, iv 0, .slice none 0 0, .slice none 0 0] 26)).alloc (.cells #[iv 0, iv 0, .slice none 0 0, .slice none 0 0] 26)
  have b0 := (Box.new w 26 #[iv 0, iv 0, .slice none 0 0, .slice none 0 0]).alloc (.cells #[iv 0, iv 0, .slice none 0 0, .slice none 0 0] 26)
  have b1 := Box.new (w.alloc (.cells #[iv 0, iv 0, .slice none 0 0, .slice none 0 0] 26)) 26 #[iv 0, iv 0, .slice none 0 0, .slice none 0 0]
  rw [World.size_alloc] at b1
  have H0 := Lib.hid o0
  have HB0 := Lib.hid b0
  have HB1 := Lib.hid b1
  clear hx hlt o0 b0 b1
  refine (callsIn_wide (n := 4)).1 ?_
  refine callsIn_of_wp_marks Tryz.func118 rfl trivial ?_ rfl
  simp only [Tryz.ntmps118, List.size_toArray, List.length_cons, List.length_nil, Nat.reduceAdd, Nat.reduceSub, Array.replicate_succ, Array.replicate_zero, List.push_toArray, List.append_toArray, List.nil_append, List.cons_append]
  gi_wp2
  refine wpIn_wide.2 ?_
  go_step3
  go_wp2
  go_step3
  go_wp2
  refine wp_loop (fun a W => OutI w od s ns.length c (some ad) ns a W) (fun a _ => 2 - (intOf (a.tmps.getD 17 undef)).toNat) ?atStart ?round
  case atStart =>
    exact ⟨0, none, by omega, rfl, ⟨rfl, rfl, rfl, rfl, rfl, rfl, rfl, .nil, HB1.out, HB0.out, H0.out⟩, fun _ => rfl, fun e => by omega, fun e => by omega⟩
  case round =>
    rintro ⟨tmps, ds⟩ W ⟨m, st, hm, h17, hI, hs0, hs1, hs2⟩
    obtain ⟨us, hus⟩ := arr_form tmps hI.size
    subst hus
    have e0 : us 0 = iv od := Option.some.inj hI.t0
    have e1 : us 1 = iv s := Option.some.inj hI.t1
    have e2 : us 2 = .slice (some ad) ns.length c := Option.some.inj hI.t2
    have e6 : us 6 = .pointer (some ⟨w.heap.size, 0, none⟩) := Option.some.inj hI.t6
    have e7 : us 7 = .pointer (some ⟨w.heap.size + 1, 0, none⟩) := Option.some.inj hI.t7
    have e8 : us 8 = iv (leastV s ns st : Nat) := Option.some.inj hI.t8
    have e17 : us 17 = iv m := Option.some.inj h17
    rw [e0, e1, e2, e6, e7, e8, e17]
    have HI := Lib.hid hI
    clear hI h17
    by_cases hm2 : m < 2
    · have hm3 : (m : Int) < 2 := by omega
      have hmb := HI.out.only.size
      have HOUT : Hid (∀ cur, ScanR m s od ns 0 st cur → (m + 1 = 0 → cur = none) ∧ (m + 1 = 1 → ScanR 0 s od ns 0 none cur) ∧ (m + 1 = 2 → ∃ st1, ScanR 0 s od ns 0 none st1 ∧ ScanR 1 s od ns 0 st1 cur)) := Lib.hid (fun cur hc => by
        refine ⟨fun e => by omega, fun e => ?_, fun e => ?_⟩
        · obtain rfl : m = 0 := by omega
          rw [hs0 rfl] at hc
          exact hc
        · obtain rfl : m = 1 := by omega
          exact ⟨st, hs1 rfl, hc⟩)
      have HI1 : Hid (∀ a : Act, a.tmps.size = 81 → a.tmps[0]? = some (iv od) → a.tmps[1]? = some (iv s) → a.tmps[2]? = some (.slice (some ad) ns.length c) → a.tmps[6]? = some (.pointer (some ⟨w.heap.size, 0, none⟩)) → a.tmps[7]? = some (.pointer (some ⟨w.heap.size + 1, 0, none⟩)) → a.tmps[8]? = some (iv (leastV s ns st : Nat)) → a.defers = ds →
          a.tmps[9]? = some (.pointer (some ⟨W.heap.size, 0, none⟩)) → a.tmps[17]? = some (iv m) → a.tmps[21]? = some (iv (od + 1 : Nat)) → a.tmps[22]? = some (iv (0 : Nat)) → LpJ w od s ns.length c (some ad) ns st m W.heap.size 0 a (W.alloc (.cells #[iv m] 3))) := Lib.hid (fun a g0 g1 g2 g3 g4 g5 g6 g7 g8 g9 g10 g11 =>
        ⟨⟨g0, g1, g2, g3, g4, g5, g6, by rw [g7]; exact HI.out.marks.keep (fun D hD => Below.heap_alloc _ _ _ (Array.getElem?_eq_some_iff.1 (HI.out.marks.lt hD)).1), HI.out.best.nix ((Only.refl Nix W).alloc _), HI.out.res.alloc _, HI.out.only.alloc _⟩, g8, g9, g10, g11, Box.new W _ _, by
          have := HI.out.best.lt
          omega⟩)
      clear hs0 hs1 hs2
      go_wp2
      refine wp_loop (fun a V => InI w od s ns.length c (some ad) ns m W.heap.size st a V) (fun a _ => od + 1 - (intOf (a.tmps.getD 22 undef)).toNat) ?atI ?roundI
      case atI =>
        exact ⟨0, st, by omega, HI1.out _ rfl rfl rfl rfl rfl rfl rfl rfl rfl rfl rfl rfl, fun _ h => h⟩
      case roundI =>
        clear HI1
        rintro ⟨tmps, ds2⟩ V ⟨o, cur, ho, hJ, hsc⟩
        obtain ⟨vs, hvs⟩ := arr_form tmps hJ.i.size
        subst hvs
        have f0 : vs 0 = iv od := Option.some.inj hJ.i.t0
        have f1 : vs 1 = iv s := Option.some.inj hJ.i.t1
        have f2 : vs 2 = .slice (some ad) ns.length c := Option.some.inj hJ.i.t2
        have f6 : vs 6 = .pointer (some ⟨w.heap.size, 0, none⟩) := Option.some.inj hJ.i.t6
        have f7 : vs 7 = .pointer (some ⟨w.heap.size + 1, 0, none⟩) := Option.some.inj hJ.i.t7
        have f8 : vs 8 = iv (leastV s ns cur : Nat) := Option.some.inj hJ.i.t8
        have f9 : vs 9 = .pointer (some ⟨W.heap.size, 0, none⟩) := Option.some.inj hJ.t9
        have f17 : vs 17 = iv m := Option.some.inj hJ.t17
        have f21 : vs 21 = iv (od + 1 : Nat) := Option.some.inj hJ.t21
        have f22 : vs 22 = iv o := Option.some.inj hJ.t22
        rw [f0, f1, f2, f6, f7, f8, f9, f17, f21, f22]
        have HJ := Lib.hid hJ
        have HSC := Lib.hid hsc
        clear hJ hsc
        by_cases hoo : o ≤ od
        · have hlt1 : (o : Int) < ((od + 1 : Nat) : Int) := by omega
          have hlt2 : (o : Int) < (od : Int) + 1 := by omega
          have HCP := Lib.hid (checkParting_any V o (ns.length + s) s (by omega) (by omega))
          rw [Int.natCast_add] at HCP
          by_cases hck : ckP o (ns.length + s) s = 0
          · rw [hck] at HCP
            go_wp2_with fail
            refine (HCP.out).mono ?_
            rintro e V1 ⟨rfl, rfl⟩
            have q0 := HJ.out.mbox.cell 0
            simp only [List.getElem?_toArray, List.getElem?_cons_zero] at q0
            have hVs := HJ.out.i.only.size
            have hmbV := HJ.out.mbox.lt
            have hbig := HJ.out.big
            have HPa := fun u => Lib.hid (parts_any (w := u) (o : Int) (s : Int) (some ad) ns.length c)
            obtain ⟨P, hP⟩ : ∃ P, 2 ^ o = P := ⟨_, rfl⟩
            obtain ⟨S, hSe⟩ : ∃ S, (ns.length + s) / P = S := ⟨_, rfl⟩
            obtain ⟨hPS, hSs⟩ := ckP_zero hck
            rw [hP, hSe] at hPS hSs
            go_wp2_with fail
            refine ((HPa _).out).mono ?_
            rintro e V2 ⟨rfl, rfl⟩
            clear HPa HCP
            have o2 : Only Nix V (((((V.alloc (.cells #[iv m, iv o, .slice none 0 0, .slice none 0 0] 26)).alloc (.cells #[iv 6] 3)).alloc (.cells #[iv o] 3)).alloc (.cells #[iv s] 3)).alloc (.cells #[.slice (some ad) ns.length c] 22)) := (((((Only.refl Nix V).alloc _).alloc _).alloc _).alloc _).alloc _
            have hIts := its_new ((V.alloc (.cells #[iv m, iv o, .slice none 0 0, .slice none 0 0] 26)).alloc (.cells #[iv 6] 3)) o s (.slice (some ad) ns.length c)
            have hz2 : ((V.alloc (.cells #[iv m, iv o, .slice none 0 0, .slice none 0 0] 26)).alloc (.cells #[iv 6] 3)).heap.size = V.heap.size + 2 := by simp
            rw [hz2] at hIts
            have bP := ((((Box.new V 26 #[iv m, iv o, .slice none 0 0, .slice none 0 0]).alloc (.cells #[iv 6] 3)).alloc (.cells #[iv o] 3)).alloc (.cells #[iv s] 3)).alloc (.cells #[.slice (some ad) ns.length c] 22)
            have bZ := (((Box.new (V.alloc (.cells #[iv m, iv o, .slice none 0 0, .slice none 0 0] 26)) 3 #[iv 6]).alloc (.cells #[iv o] 3)).alloc (.cells #[iv s] 3)).alloc (.cells #[.slice (some ad) ns.length c] 22)
            rw [World.size_alloc] at bZ
            have hsz4 : (((((V.alloc (.cells #[iv m, iv o, .slice none 0 0, .slice none 0 0] 26)).alloc (.cells #[iv 6] 3)).alloc (.cells #[iv o] 3)).alloc (.cells #[iv s] 3)).alloc (.cells #[.slice (some ad) ns.length c] 22)).heap.size = V.heap.size + 5 := by simp
            go_wp2
            generalize (((((V.alloc (.cells #[iv m, iv o, .slice none 0 0, .slice none 0 0] 26)).alloc (.cells #[iv 6] 3)).alloc (.cells #[iv o] 3)).alloc (.cells #[iv s] 3)).alloc (.cells #[.slice (some ad) ns.length c] 22)) = V0 at *
            have hcap := HX.out.cap
            rw [ivs_len] at hcap
            have HIt := Lib.hid hIts
            have HbP := Lib.hid bP
            have HbZ := Lib.hid bZ
            have HO2 := Lib.hid o2
            have HMK : Hid (∀ U D, Only Nix V U → V0.heap.size ≤ D → U.heap[D]? = some (.deferred (some [])) → Marks w.heap.size U ({ target := .collected D, args := #[] } :: ds2)) := Lib.hid (fun U D oU hD hK => by
              have hm0 := HJ.out.i.marks
              refine .cons D ds2 hK (by omega) (fun d hd e => ?_) (hm0.keep (fun D' hD' => oU.block D' (Array.getElem?_eq_some_iff.1 (hm0.lt hD')).1 (fun e => e)))
              have h9 := (Array.getElem?_eq_some_iff.1 (hm0.lt (D := D) (by rw [← e]; exact List.mem_map_of_mem hd))).1
              omega)
            clear hIts bP bZ o2 hz2 q0
            refine (wpIn_wide (n := 4)).1 ?_
            refine wpIn_rangeFunc_ownG rfl (by decide) (gf := 99) (lb := itsV (V.heap.size + 2)) rfl trivial (enters_of Tryz.func99 (by kernel_rfl) rfl)
              (parts_stops (by omega) hP hPS hSs (by omega) hcap (by omega) HIt.out) KeepB.t (KeepB.b (by omega)) (Below.refl _ _) (fun _ => rfl)
              (fun pre U => RgI V0 V.heap.size (V.heap.size + 1) m o S s ns (pre.map Fin.val) U)
              (fun cd _ U => RgX V0 V.heap.size (V.heap.size + 1) m S s P ns cd U)
              (RgI.own (Nat.le_refl _))
              (fun cd => RgX.own (Nat.le_refl _) cd)
              ⟨⟨[], .slice none 0 0, .slice none 0 0, rfl, HbP.out, World.ownsRow_nil _ _ _ _, World.ownsRow_nil _ _ _ _, fun g e => by (simp [Value.ownBlock] at e), by (simpa [szZ] using HbZ.out)⟩, Only.refl _ _⟩
              (fun x => { tmps := #[iv od, iv s, .slice (some ad) ns.length c, vs 3, vs 4, vs 5, .pointer (some ⟨w.heap.size, 0, none⟩), .pointer (some ⟨w.heap.size + 1, 0, none⟩), iv (leastV s ns cur : Nat), .pointer (some ⟨W.heap.size, 0, none⟩), iv o, .pointer (some ⟨V.heap.size, 0, none⟩), .pointer (some ⟨V.heap.size + 1, 0, none⟩), vs 13, (.slice (some (ad.add (frm S s x.val))) (frm S s (x.val + 1) - frm S s x.val) (c - frm S s x.val)), vs 15, vs 16, iv m, vs 18, vs 19, vs 20, iv (od + 1 : Int), iv o, .bool true, iv o, iv o, .slice (some ad) ns.length c, .int .i64 (ns.length : Int), iv s, .int .i64 ((ns.length : Int) + (s : Int)), iv s, iv 0, .bool false, iv m, iv o, .agg #[iv m, iv o, .slice none 0 0, .slice none 0 0], iv o, iv s, .slice (some ad) ns.length c, .func (.func 99) #[] (itsV (V.heap.size + 2)), iv (x.val : Int), (.slice (some (ad.add (frm S s x.val))) (frm S s (x.val + 1) - frm S s x.val) (c - frm S s x.val)), vs 42, vs 43, vs 44, vs 45, vs 46, vs 47, vs 48, vs 49, vs 50, vs 51, vs 52, vs 53, vs 54, vs 55, vs 56, vs 57, vs 58, vs 59, vs 60, vs 61, vs 62, vs 63, vs 64, vs 65, vs 66, vs 67, vs 68, vs 69, vs 70, vs 71, vs 72, vs 73, vs 74, vs 75, vs 76, vs 77, vs 78, vs 79, vs 80], defers := [] }) ?assign ?body ?done ?stop
            case assign =>
              intro l x U K hK
              unfold partE
              gi_wp2
              exact hK
            case body =>
              intro lp pre x U hR hpl
              obtain ⟨⟨cs, v2, v3, hcs, bPl, r2, r3, hne, bZz⟩, hoU⟩ := hR
              have oU : Only Nix V U := HO2.out.then hoU (fun i e => .inr (by rcases e with e | e <;> omega))
              have hkP := x.isLt
              have hst := (frm_step S s x.val hSs).1
              have hfl := frm_le S s (x.val + 1) P ns.length hkP hPS
              have hptl := pt_len S s P ns x.val hSs hkP hPS
              have hsrc : ISrc U (.slice (some (ad.add (frm S s x.val))) (frm S s (x.val + 1) - frm S s x.val) (c - frm S s x.val)) (ivs (pt S s ns x.val)) := by
                have e : ivs (pt S s ns x.val) = ((ivs ns).drop (frm S s x.val)).take (frm S s (x.val + 1) - frm S s x.val) := by
                  unfold ivs pt
                  rw [List.map_take, List.map_drop]
                rw [e]
                exact (HX.out.nix (HJ.out.i.only.trans oU)).sub (frm S s x.val) (frm S s (x.val + 1) - frm S s x.val) (by rw [ivs_len]; omega) (c - frm S s x.val) (by omega)
              have HCh := Lib.hid (cheapest_any (w := U) m (by omega) (some (ad.add (frm S s x.val))) (frm S s (x.val + 1) - frm S s x.val) (c - frm S s x.val) (pt S s ns x.val) hsrc (by rw [hptl]; omega) (by rw [hptl]; omega) (fun y hy => HL.out y (List.mem_of_mem_drop (List.mem_of_mem_take hy))))
              have hmc := (HJ.out.mbox.only oU (fun e => e)).cell 0
              simp only [List.getElem?_toArray, List.getElem?_cons_zero] at hmc
              have hmx : Hid (pre.map Fin.val ++ [x.val] = (pre ++ [x]).map Fin.val) := Lib.hid (by rw [List.map_append]; rfl)
              obtain ⟨ptx, hptx⟩ : ∃ ptx, pt S s ns x.val = ptx := ⟨_, rfl⟩
              have Hptx := Lib.hid hptx
              rw [hptx] at HCh
              generalize ((.slice (some (ad.add (frm S s x.val))) (frm S s (x.val + 1) - frm S s x.val) (c - frm S s x.val)) : Value) = PV at *
              clear hsrc hst hptl hptx
              gi_wp2_with fail
              refine ⟨trivial, CallsIn.inRound lp ((callsIn_wide.2 HCh.out).mono ?_)⟩
              rintro e U1 ⟨rfl, o1⟩
              clear HCh
              cases hch : chp m ptx with
              | none =>
                have hbad : ∃ k, k < P ∧ chp m (pt S s ns k) = none := ⟨x.val, hkP, by rw [Hptx.out]; exact hch⟩
                have hO9 := (hoU.trans o1.nix).alloc (.cells #[iv 0, iv 0, iv 0] 180)
                have hK9 := keeps_of (B := V0.heap.size) (o1.alloc (.cells #[iv 0, iv 0, iv 0] 180)) (fun k e => e.elim)
                have H9 := Lib.hid (And.intro hbad (And.intro hO9 hK9))
                clear hbad hO9 hK9 hoU oU o1 bPl bZz r2 r3 hmc
                simp only [chV, Option.isSome_none]
                gi_wp2
                exact ⟨H9.out.2.2, rfl, H9.out.1, H9.out.2.1⟩
              | some d =>
                have hU1 := o1.size
                have hV0U := hoU.size
                have oF2 : Only (fun k => k = V.heap.size ∨ k = V.heap.size + 1) V0 U1 := hoU.trans o1.nix
                have bC := Box.new U1 180 (chV m ptx (some d))
                have oA := (Only.refl Nix U1).alloc (.cells (chV m ptx (some d)) 180)
                simp only [chV] at bC oA
                have bP2 := (bPl.only o1 (fun e => e)).alloc (.cells #[iv d.1, iv d.2, iv (szP m d.1 d.2 ptx : Nat)] 180)
                have bZ2 := (bZz.only o1 (fun e => e)).alloc (.cells #[iv d.1, iv d.2, iv (szP m d.1 d.2 ptx : Nat)] 180)
                have s2 := owns_only r2 (o1.trans oA) (fun _ _ e => e)
                have s3 := owns_only r3 (o1.trans oA) (fun _ _ e => e)
                have oF3 := oF2.trans oA.nix
                have oK3 := o1.trans oA
                obtain ⟨U2, hU2⟩ : ∃ U2, U1.alloc (.cells #[iv d.1, iv d.2, iv (szP m d.1 d.2 ptx : Nat)] 180) = U2 := ⟨_, rfl⟩
                rw [hU2] at bC bP2 bZ2 s2 s3 oF3 oK3 oA
                have hUs := oA.size
                have m0 := bC.cell 0
                have m1 := bC.cell 1
                have m2 := bC.cell 2
                have n2 := bP2.cell 2
                simp only [List.getElem?_toArray, List.getElem?_cons_zero, List.getElem?_cons_succ] at m0 m1 m2 n2
                have HS2 := Lib.hid s2
                have HS3 := Lib.hid s3
                have HBC := Lib.hid bC
                have HBP2 := Lib.hid bP2
                have HBZ2 := Lib.hid bZ2
                have HOF3 := Lib.hid oF3
                have HOK3 := Lib.hid oK3
                have Hr2 := Lib.hid r2
                have Hr3 := Lib.hid r3
                have hcl : cs.length = pre.length := by have := congrArg List.length hcs; simpa using this.symm
                have HCS := Lib.hid hcs
                have HOU := Lib.hid oU
                have HNE := Lib.hid hne
                have Hch := Lib.hid hch
                have hP32 : P ≤ 32768 := by rw [← hP]; exact Nat.pow_le_pow_right (show 0 < 2 by decide) (show o ≤ 15 by omega)
                have hclb : cs.length ≤ 32768 := by omega
                have Hcl := Lib.hid hcl
                clear hcl
                clear bC bP2 bZ2 s2 s3 oF3 oF2 oK3 r2 r3 bPl bZz o1 oA hoU oU hmc hcs hne hch
                simp only [chV, Option.isSome_some]
                gi_wp2_with (gi_at_builtin; refine wpListIn_append_one rfl (.tmp 51) (.tmp 54) rfl V0.heap.size v2 cs.length (cs.map fun c => iv c.1) rfl ?ownA U2.heap.size d.1 rfl ?cellA ?nA ?baseA ?restA)
                case ownA => exact HS2.out.alloc _
                case cellA => exact (Box.new U2 3 #[iv d.1]).cell 0
                case nA => omega
                case baseA => rw [World.size_alloc]; omega
                case restA =>
                  intro gA cA U3 hA1 hA2 hA3
                  have nvP : v2.ownBlock ≠ some V.heap.size := fun e => by have := (HS2.out.lt _ e).1; omega
                  have nvZ : v2.ownBlock ≠ some (V.heap.size + 1) := fun e => by have := (HS2.out.lt _ e).1; omega
                  have bP3 := (HBP2.out.alloc (.cells #[iv d.1] 3)).grown hA2 nvP
                  have bZ3 := (HBZ2.out.alloc (.cells #[iv d.1] 3)).grown hA2 nvZ
                  have bC3 := (HBC.out.alloc (.cells #[iv d.1] 3)).grown hA2 (owns_box HS2.out HBC.out (by decide))
                  have s33 := (HS3.out.alloc (.cells #[iv d.1] 3)).kept hA2 (by
                    cases hv : v3.ownBlock with
                    | none => exact .inl rfl
                    | some g => exact .inr (fun e => HNE.out g e.symm hv))
                  have oF4 := ((HOF3.out.alloc (.cells #[iv d.1] 3)).grown hA2 (fun k e => .inr (HS2.out.lt k e).1)).setCell (p := ⟨V.heap.size, 2, none⟩) (.inl (.inl rfl)) (.slice (some ⟨gA, 0, none⟩) (cs.length + 1) cA)
                  have oP4 : Only (fun k => k = V.heap.size) U3 (U3.setCell ⟨V.heap.size, 2, none⟩ (.slice (some ⟨gA, 0, none⟩) (cs.length + 1) cA)) := (Only.refl (fun k => k = V.heap.size) U3).setCell (p := ⟨V.heap.size, 2, none⟩) (.inl rfl) _
                  have bP4 : Box (U3.setCell ⟨V.heap.size, 2, none⟩ (.slice (some ⟨gA, 0, none⟩) (cs.length + 1) cA)) V.heap.size 26 #[iv m, iv o, .slice (some ⟨gA, 0, none⟩) (cs.length + 1) cA, v3] := bP3.put 2 (.slice (some ⟨gA, 0, none⟩) (cs.length + 1) cA)
                  have bZ4 := bZ3.only oP4 (by omega)
                  have bC4 := bC3.only oP4 (by omega)
                  have hgA0 := (hA1.lt gA rfl).1
                  have hgA1 := (hA1.lt gA rfl).2
                  have rA4 := owns_only hA1 oP4 (fun g e => by simp [Value.ownBlock] at e; omega)
                  have s34 := owns_only s33 oP4 (fun g e => by have := (HS3.out.lt g e).1; omega)
                  have hgA3 : v3.ownBlock ≠ some gA := fun e => by
                    rcases hA3 with h | h
                    · exact HNE.out gA h e
                    · have := (HS3.out.lt gA e).2; omega
                  have hU3s := hA2.size
                  rw [World.size_alloc] at hU3s
                  have c2' := bP3.cell 2
                  have c3' := bP4.cell 3
                  have fz := bP3.frozen 2
                  simp only [List.getElem?_toArray, List.getElem?_cons_zero, List.getElem?_cons_succ] at c2' c3'
                  have HA1 := Lib.hid (And.intro hA2 (And.intro nvP nvZ))
                  have HF4 := Lib.hid (And.intro oF4 (And.intro bP4 (And.intro bZ4 (And.intro bC4 (And.intro rA4 s34)))))
                  have m14 := bC4.cell 1
                  simp only [List.getElem?_toArray, List.getElem?_cons_zero, List.getElem?_cons_succ] at m14
                  have hU4s := oP4.size
                  clear bP3 bZ3 bC3 s33 oF4 oP4 bP4 bZ4 bC4 rA4 s34 m0 m1 m2 n2 hA1 hA2
                  obtain ⟨U4, hU4⟩ : ∃ U4, U3.setCell ⟨V.heap.size, 2, none⟩ (.slice (some ⟨gA, 0, none⟩) (cs.length + 1) cA) = U4 := ⟨_, rfl⟩
                  rw [hU4] at HF4 c3' m14 hU4s
                  gi_wp2_with (gi_at_builtin; refine wpListIn_append_one rfl (.tmp 58) (.tmp 61) rfl V0.heap.size v3 cs.length (cs.map fun c => iv c.2) rfl ?ownB U4.heap.size d.2 rfl ?cellB ?nB ?baseB ?restB)
                  case ownB => exact HF4.out.2.2.2.2.2.alloc _
                  case cellB => exact (Box.new U4 3 #[iv d.2]).cell 0
                  case nB => omega
                  case baseB => rw [World.size_alloc]; omega
                  case restB =>
                    intro gB cB U5 hB1 hB2 hB3
                    have nwP : v3.ownBlock ≠ some V.heap.size := fun e => by have := (HS3.out.lt _ e).1; omega
                    have nwZ : v3.ownBlock ≠ some (V.heap.size + 1) := fun e => by have := (HS3.out.lt _ e).1; omega
                    have bP5 := (HF4.out.2.1.alloc (.cells #[iv d.2] 3)).grown hB2 nwP
                    have bZ5 := (HF4.out.2.2.1.alloc (.cells #[iv d.2] 3)).grown hB2 nwZ
                    have bC5 := (HF4.out.2.2.2.1.alloc (.cells #[iv d.2] 3)).grown hB2 (owns_box HF4.out.2.2.2.2.2 HF4.out.2.2.2.1 (by decide))
                    have rA5 := (HF4.out.2.2.2.2.1.alloc (.cells #[iv d.2] 3)).kept hB2 (.inr (fun e => hgA3 e.symm))
                    have hgB0 := (hB1.lt gB rfl).1
                    have hgB1 := (hB1.lt gB rfl).2
                    have hAB : gA ≠ gB := fun e => by
                      rcases hB3 with h | h
                      · rw [← e] at h; exact hgA3 h
                      · omega
                    have hU5s := hB2.size
                    rw [World.size_alloc] at hU5s
                    have oP6 : Only (fun k => k = V.heap.size) U5 (U5.setCell ⟨V.heap.size, 3, none⟩ (.slice (some ⟨gB, 0, none⟩) (cs.length + 1) cB)) := (Only.refl (fun k => k = V.heap.size) U5).setCell (p := ⟨V.heap.size, 3, none⟩) (.inl rfl) _
                    have oF5 : Only (fun k => k = V.heap.size ∨ k = V.heap.size + 1) V0 U5 := (HF4.out.1.alloc (.cells #[iv d.2] 3)).grown hB2 (fun k e => .inr (HS3.out.lt k e).1)
                    have oF6 : Only (fun k => k = V.heap.size ∨ k = V.heap.size + 1) V0 (U5.setCell ⟨V.heap.size, 3, none⟩ (.slice (some ⟨gB, 0, none⟩) (cs.length + 1) cB)) := oF5.setCell (p := ⟨V.heap.size, 3, none⟩) (.inl (.inl rfl)) _
                    have oK1 : Only (FB V.heap.size v2 v3) U U3 := ((HOK3.out.nix (F := FB V.heap.size v2 v3)).alloc (.cells #[iv d.1] 3)).grown HA1.out.1 (fun k e => .inl (.inr (.inr (.inl e))))
                    have oK4 : Only (FB V.heap.size v2 v3) U U4 := by rw [← hU4]; exact oK1.setCell (p := ⟨V.heap.size, 2, none⟩) (.inl (.inl rfl)) _
                    have oK5 : Only (FB V.heap.size v2 v3) U U5 := (oK4.alloc (.cells #[iv d.2] 3)).grown hB2 (fun k e => .inl (.inr (.inr (.inr e))))
                    have oK6 : Only (FB V.heap.size v2 v3) U (U5.setCell ⟨V.heap.size, 3, none⟩ (.slice (some ⟨gB, 0, none⟩) (cs.length + 1) cB)) := oK5.setCell (p := ⟨V.heap.size, 3, none⟩) (.inl (.inl rfl)) _
                    have bP6 : Box (U5.setCell ⟨V.heap.size, 3, none⟩ (.slice (some ⟨gB, 0, none⟩) (cs.length + 1) cB)) V.heap.size 26 #[iv m, iv o, .slice (some ⟨gA, 0, none⟩) (cs.length + 1) cA, .slice (some ⟨gB, 0, none⟩) (cs.length + 1) cB] := bP5.put 3 _
                    have bZ6 := bZ5.only oP6 (by omega)
                    have bC6 := bC5.only oP6 (by omega)
                    have rA6 := owns_only rA5 oP6 (fun g e => by simp [Value.ownBlock] at e; omega)
                    have rB6 := owns_only hB1 oP6 (fun g e => by simp [Value.ownBlock] at e; omega)
                    have q3 := bP5.cell 3
                    have fq := bP5.frozen 3
                    simp only [List.getElem?_toArray, List.getElem?_cons_zero, List.getElem?_cons_succ] at q3
                    obtain ⟨U6, hU6⟩ : ∃ U6, U5.setCell ⟨V.heap.size, 3, none⟩ (.slice (some ⟨gB, 0, none⟩) (cs.length + 1) cB) = U6 := ⟨_, rfl⟩
                    rw [hU6] at oF6 oK6 bP6 bZ6 bC6 rA6 rB6
                    have qz := bZ6.cell 0
                    have fz6 := bZ6.frozen 0
                    have qc := bC6.cell 2
                    simp only [List.getElem?_toArray, List.getElem?_cons_zero, List.getElem?_cons_succ] at qz qc
                    have HF6 := Lib.hid (And.intro oF6 (And.intro oK6 (And.intro bP6 (And.intro bZ6 (And.intro rA6 rB6)))))
                    have HAB := Lib.hid hAB
                    clear bP5 bZ5 bC5 rA5 oP6 oF5 oF6 oK1 oK4 oK5 oK6 bP6 bZ6 bC6 rA6 rB6 hB1 hB2 c3' m14 hAB
                    have hszb : szZ m S s ns (pre.map Fin.val) cs + szP m d.1 d.2 ptx ≤ 4294967400 * 65535 := by
                      have b1 := szZ_bound (P := P) (by omega) hSs hPS HL.out (pre.map Fin.val) cs (fun k hk => by obtain ⟨f, _, rfl⟩ := List.mem_map.1 hk; exact f.isLt) (fun c hc => (cs_fit HCS.out c hc).1)
                      have hl9 := pt_len S s P ns x.val hSs hkP hPS
                      have hst9 := (frm_step S s x.val hSs).1
                      have hw9 := Nat.mul_le_mul_left 4294967400 (frm_width S s x.val)
                      have b2 := szP_bound m d.1 d.2 ptx (by omega) (chp_isP Hch.out) (by rw [← Hptx.out, hl9]; omega) (fun y hy => HL.out y (by rw [← Hptx.out] at hy; exact List.mem_of_mem_drop (List.mem_of_mem_take hy)))
                      rw [← Hptx.out, hl9] at b2
                      rw [Hptx.out] at b2
                      have b3 := Nat.mul_le_mul_right S (show pre.length + 1 ≤ P from hpl)
                      rw [Nat.succ_mul, hPS] at b3
                      rw [List.length_map] at b1
                      omega
                    have HSn : Hid (6 + szZ m S s ns ((pre ++ [x]).map Fin.val) (cs ++ [d]) = 6 + szZ m S s ns (pre.map Fin.val) cs + szP m d.1 d.2 ptx) := Lib.hid (by
                      rw [← hmx.out, szZ_snoc m S s ns _ cs x.val d (by rw [List.length_map]; exact Hcl.out.symm), Hptx.out, Nat.add_assoc])
                    generalize szZ m S s ns (pre.map Fin.val) cs = Z0 at *
                    generalize szP m d.1 d.2 ptx = Z1 at *
                    gi_wp2
                    have oZ7 : Only (fun k => k = V.heap.size + 1) U6 (U6.setCell ⟨V.heap.size + 1, 0, none⟩ (.int .i64 (6 + (Z0 : Int) + (Z1 : Int)))) := (Only.refl (fun k => k = V.heap.size + 1) U6).setCell (p := ⟨V.heap.size + 1, 0, none⟩) (.inl rfl) _
                    have oK7 : Only (FB V.heap.size v2 v3) U (U6.setCell ⟨V.heap.size + 1, 0, none⟩ (.int .i64 (6 + (Z0 : Int) + (Z1 : Int)))) := HF6.out.2.1.setCell (p := ⟨V.heap.size + 1, 0, none⟩) (.inl (.inr (.inl rfl))) _
                    have oF7 : Only (fun k => k = V.heap.size ∨ k = V.heap.size + 1) V0 (U6.setCell ⟨V.heap.size + 1, 0, none⟩ (.int .i64 (6 + (Z0 : Int) + (Z1 : Int)))) := HF6.out.1.setCell (p := ⟨V.heap.size + 1, 0, none⟩) (.inl (.inr rfl)) _
                    have bP7 := HF6.out.2.2.1.only oZ7 (by omega)
                    have bZ7 : Box (U6.setCell ⟨V.heap.size + 1, 0, none⟩ (.int .i64 (6 + (Z0 : Int) + (Z1 : Int)))) (V.heap.size + 1) 3 #[.int .i64 (6 + (Z0 : Int) + (Z1 : Int))] := HF6.out.2.2.2.1.put 0 _
                    have rA7 := owns_only HF6.out.2.2.2.2.1 oZ7 (fun g e => by simp [Value.ownBlock] at e; omega)
                    have rB7 := owns_only HF6.out.2.2.2.2.2 oZ7 (fun g e => by simp [Value.ownBlock] at e; omega)
                    refine ⟨keeps_of oK7 (fun k hk hB _ => ?_), KeepB.of oK7 (by omega) (fun k h1 h2 hk => ?_), ⟨cs ++ [d], .slice (some ⟨gA, 0, none⟩) (cs.length + 1) cA, .slice (some ⟨gB, 0, none⟩) (cs.length + 1) cB, ?_, bP7, ?_, ?_, fun g e e2 => ?_, ?_⟩, oF7⟩
                    · rcases hk with e | e | e | e
                      · omega
                      · omega
                      · exact own_cells Hr2.out e
                      · exact own_cells Hr3.out e
                    · rcases hk with e | e | e | e
                      · omega
                      · omega
                      · have := (Hr2.out.lt k e).1; omega
                      · have := (Hr3.out.lt k e).1; omega
                    · unfold CsOk
                      rw [← hmx.out, List.map_append, List.map_append, HCS.out]
                      simp [Hptx.out, Hch.out]
                    · rw [hsz4, List.length_append, List.map_append]
                      exact rA7
                    · rw [hsz4, List.length_append, List.map_append]
                      exact rB7
                    · simp [Value.ownBlock] at e e2
                      exact HAB.out (by omega)
                    · rw [HSn.out]
                      exact bZ7
            case done =>
              intro D ys U hD hys hR hK
              obtain ⟨⟨cs, v2, v3, hcs, bPl, r2, r3, hne, bZz⟩, hoU⟩ := hR
              rw [hys] at hcs bZz
              have oU : Only Nix V U := HO2.out.then hoU (fun i e => .inr (by rcases e with e | e <;> omega))
              have hmk2 := HMK.out U D oU hD hK
              have hcl : cs.length = P := by have := congrArg List.length hcs; simpa using this.symm
              have hP0 : 0 < P := by rw [← hP]; exact Nat.two_pow_pos o
              obtain ⟨g2, c2, rfl, hg2⟩ := row_form r2 (by omega)
              obtain ⟨g3, c3, rfl, hg3⟩ := row_form r3 (by omega)
              rw [szZ_range m S s P ns cs (by have := congrArg List.length hcs; simpa using this.symm)] at bZz
              have hpS : 6 + szL S s m (cs.map (·.1)) (cs.map (·.2)) ns (List.range P) = plS s ns (m, o, cs) := by unfold plS; rw [hP, hSe]
              rw [hpS] at bZz
              have hbestU := HJ.out.i.best.nix oU
              have hfit := cs_fit hcs
              have hPl : P ≤ 32768 := by rw [← hP]; exact Nat.pow_le_pow_right (show 0 < 2 by decide) (show o ≤ 15 by omega)
              have i2 := isrc_row r2 (xs := cs.map (·.1)) (by rw [List.map_map]; rfl) (fun y hy => by obtain ⟨d, hd, rfl⟩ := List.mem_map.1 hy; have := hfit d hd; omega) (by omega)
              have i3 := isrc_row r3 (xs := cs.map (·.2)) (by rw [List.map_map]; rfl) (fun y hy => by obtain ⟨d, hd, rfl⟩ := List.mem_map.1 hy; have := hfit d hd; omega) (by omega)
              obtain ⟨bm, bo, bA, bA', bn, bn', bc, bc', bps, bbs, hbx, hsp, hsb, hno, hso, hbl⟩ := hbestU.form
              rw [hcl] at i2 i3
              have hbx0 := hbx
              have HFIN : Hid (∀ U' st', betterP s ns cur (m, o, cs) = st' → Only (fun k => k = w.heap.size + 1) U U' → BestB U' (w.heap.size + 1) st' → ∀ a : Act, a.tmps.size = 81 → a.tmps[0]? = some (iv od) → a.tmps[1]? = some (iv s) → a.tmps[2]? = some (.slice (some ad) ns.length c) → a.tmps[6]? = some (.pointer (some ⟨w.heap.size, 0, none⟩)) → a.tmps[7]? = some (.pointer (some ⟨w.heap.size + 1, 0, none⟩)) → a.tmps[8]? = some (iv (leastV s ns st' : Nat)) → a.defers = { target := .collected D, args := #[] } :: ds2 →
                  a.tmps[9]? = some (.pointer (some ⟨W.heap.size, 0, none⟩)) → a.tmps[17]? = some (iv m) → a.tmps[21]? = some (iv (od + 1 : Nat)) → a.tmps[22]? = some (iv (o + 1 : Nat)) → InI w od s ns.length c (some ad) ns m W.heap.size st a U') := Lib.hid (fun U' st' hst' oU' hb' a g0 g1 g2 g3 g4 g5 g6 g7 g8 g9 g10 g11 => by
                have hJi := HJ.out.i
                have hbl2 := hbestU.lt
                refine ⟨o + 1, st', by omega, ⟨⟨g0, g1, g2, g3, g4, g5, g6, ?_, hb', (hJi.res.only oU (fun e => e)).only oU' (by omega), ?_⟩, g8, g9, g10, g11, (HJ.out.mbox.only oU (fun e => e)).only oU' (by omega), HJ.out.big⟩, fun st2 h => HSC.out st2 (.more o cur st2 cs hoo hck (by rw [hP, hSe]; exact hcs) (by rw [hst']; exact h))⟩
                · rw [g7]
                  refine hmk2.keep (fun D' hD' => oU'.block D' (Array.getElem?_eq_some_iff.1 (hmk2.lt hD')).1 (fun e => ?_))
                  have h9 := hmk2.lt hD'
                  rw [e] at h9
                  have h8 := hbx0
                  unfold Box at h8
                  rw [h8] at h9
                  cases h9
                · exact (hJi.only.trans oU).then oU' (fun i e => .inr (by rw [e]; exact Nat.le_succ _)))
              have Hbx := Lib.hid hbx
              have k0 := hbx.cell 0
              have k1 := hbx.cell 1
              have k2 := hbx.cell 2
              have k3 := hbx.cell 3
              have y0 := hbx.frozen 0
              have y1 := hbx.frozen 1
              have y2 := hbx.frozen 2
              have y3 := hbx.frozen 3
              have p0 := bPl.cell 0
              have p1 := bPl.cell 1
              have p2 := bPl.cell 2
              have p3 := bPl.cell 3
              have z0 := bZz.cell 0
              simp only [List.getElem?_toArray, List.getElem?_cons_zero, List.getElem?_cons_succ] at k0 k1 k2 k3 p0 p1 p2 p3 z0
              have heq : ∀ u (A0 : Option Addr) (n0 c0 : Nat), (binOp .eql 22 (.slice A0 n0 c0) (.slice none 0 0)).run Tryz.prog u = .ok (.bool A0.isNone) u := fun u A0 n0 c0 => Lib.run_eql_slice_nil u 22 3 A0 n0 c0 0 0 Tryz.underlying22
              cases cur with
              | none =>
                obtain ⟨rfl, rfl, rfl, rfl, rfl, rfl, rfl, rfl⟩ := hno rfl
                have HP2 := Lib.hid (best_put (m := m) (o := o) hcl hP0 Hbx.out i2 i3 (by omega) (by omega))
                clear i2 i3 hbx hbx0 hbestU hsp hsb hno hso bPl bZz r2 r3 hfit
                go_wp2
                go_region
                have hFI := HFIN.out _ _ rfl HP2.out.2 HP2.out.1
                go_wp2
                refine ⟨hFI _ rfl rfl rfl rfl rfl rfl rfl rfl rfl rfl rfl rfl, ?_⟩
                show od + 1 - (intOf (.int .i64 ((o : Int) + 1))).toNat < od + 1 - (intOf (iv o)).toNat
                simp [intOf]
                omega
              | some b =>
                obtain ⟨e1, e2, e3, e4, ⟨gA, rfl⟩⟩ := hso b rfl
                have hnil : (some gA : Option Addr).isNone = false := rfl
                by_cases hl : plS s ns (m, o, cs) < plS s ns b
                · have hst' : betterP s ns (some b) (m, o, cs) = some (m, o, cs) := by unfold betterP; simp only; rw [if_pos hl]
                  have hld : plS s ns (m, o, cs) < leastV s ns (some b) := hl
                  have HP2 := Lib.hid (best_put (m := m) (o := o) hcl hP0 Hbx.out i2 i3 (by omega) (by omega))
                  have Hst := Lib.hid hst'
                  clear i2 i3 hbx hbx0 hbestU hsp hsb hno hso bPl bZz r2 r3 hfit hst' hl e1 e2 e3 e4
                  go_wp2
                  go_region
                  have hFI := HFIN.out _ _ Hst.out HP2.out.2 HP2.out.1
                  go_wp2
                  refine ⟨hFI _ rfl rfl rfl rfl rfl rfl rfl rfl rfl rfl rfl rfl, ?_⟩
                  show od + 1 - (intOf (.int .i64 ((o : Int) + 1))).toNat < od + 1 - (intOf (iv o)).toNat
                  simp [intOf]
                  omega
                · have hst' : betterP s ns (some b) (m, o, cs) = some b := by unfold betterP; simp only; rw [if_neg hl]
                  have hld : ¬ plS s ns (m, o, cs) < leastV s ns (some b) := hl
                  have hld2 : decide (plS s ns (m, o, cs) < leastV s ns (some b)) = false := by simpa using hld
                  have hFI := HFIN.out _ _ hst' (Only.refl _ U) hbestU
                  have HFI := Lib.hid hFI
                  clear i2 i3 hbx hbx0 hbestU hsp hsb hno hso bPl bZz r2 r3 hfit hst' hl e1 e2 e3 e4 hFI
                  go_wp2
                  refine ⟨HFI.out _ rfl rfl rfl rfl rfl rfl rfl rfl rfl rfl rfl rfl, ?_⟩
                  show od + 1 - (intOf (.int .i64 ((o : Int) + 1))).toNat < od + 1 - (intOf (iv o)).toNat
                  simp [intOf]
                  omega
            case stop =>
              intro D cd pre U hD hys hR hK
              obtain ⟨hcd, ⟨kb, hkb1, hkb2⟩, hoU⟩ := hR
              subst hcd
              have oU : Only Nix V U := HO2.out.then hoU (fun i e => .inr (by rcases e with e | e <;> omega))
              have HE := Lib.hid (HOUT.out cur (HSC.out cur (.bad o kb cur (by omega) (by rw [hP, hSe]; exact hkb2))))
              have HJi := HJ.out.i
              have hmk2 := HMK.out U D oU hD hK
              have HJ2 : Hid (∀ a : Act, a.tmps.size = 81 → a.tmps[0]? = some (iv od) → a.tmps[1]? = some (iv s) → a.tmps[2]? = some (.slice (some ad) ns.length c) → a.tmps[6]? = some (.pointer (some ⟨w.heap.size, 0, none⟩)) → a.tmps[7]? = some (.pointer (some ⟨w.heap.size + 1, 0, none⟩)) → a.tmps[8]? = some (iv (leastV s ns cur : Nat)) → a.defers = { target := .collected D, args := #[] } :: ds2 → LpI w od s ns.length c (some ad) ns cur a U) := Lib.hid (fun a g0 g1 g2 g3 g4 g5 g6 g7 =>
                ⟨g0, g1, g2, g3, g4, g5, g6, by rw [g7]; exact hmk2, HJi.best.nix oU, HJi.res.only oU (fun e => e), HJi.only.trans oU⟩)
              clear hoU oU HJi hmk2 hK
              refine wpIn_wide.2 ?_
              go_wp2
              refine ⟨⟨m + 1, cur, by omega, rfl, HJ2.out _ rfl rfl rfl rfl rfl rfl rfl rfl, HE.out⟩, ?_⟩
              show 2 - (intOf (.int .i64 ((m : Int) + 1))).toNat < 2 - (intOf (iv m)).toNat
              simp [intOf]
              omega
          · have hcb : (ckP o (ns.length + s) s != 0) = true := by simpa using hck
            have HE := Lib.hid (HOUT.out cur (HSC.out cur (.part o cur hck)))
            generalize ckP o (ns.length + s) s = ce at *
            go_wp2_with fail
            refine (HCP.out).mono ?_
            rintro e V1 ⟨rfl, rfl⟩
            go_wp2
            have HJi := HJ.out.i
            refine ⟨⟨m + 1, cur, by omega, rfl, ⟨rfl, rfl, rfl, rfl, rfl, rfl, rfl, HJi.marks, HJi.best, HJi.res, HJi.only⟩, HE.out⟩, ?_⟩
            show 2 - (intOf (.int .i64 ((m : Int) + 1))).toNat < 2 - (intOf (iv m)).toNat
            simp [intOf]
            omega
        · have HE := Lib.hid (HOUT.out cur (HSC.out cur (.over o cur (by omega))))
          obtain rfl : o = od + 1 := by omega
          go_wp2
          have HJi := HJ.out.i
          refine ⟨⟨m + 1, cur, by omega, rfl, ⟨rfl, rfl, rfl, rfl, rfl, rfl, rfl, HJi.marks, HJi.best, HJi.res, HJi.only⟩, HE.out⟩, ?_⟩
          show 2 - (intOf (.int .i64 ((m : Int) + 1))).toNat < 2 - (intOf (iv m)).toNat
          simp [intOf]
          omega
    · obtain rfl : m = 2 := by omega
      obtain ⟨bm, bo, bA, bA', bn, bn', bc, bc', bps, bbs, hbx, hsp, hsb, hno, hso, hbl⟩ := HI.out.best.form
      have c0 := hbx.cell 0
      have c1 := hbx.cell 1
      have c2 := hbx.cell 2
      have c3 := hbx.cell 3
      have r0 := HI.out.res.cell 0
      have r1 := HI.out.res.cell 1
      have r2 := HI.out.res.cell 2
      have r3 := HI.out.res.cell 3
      have f0 := HI.out.res.frozen 0
      have f1 := HI.out.res.frozen 1
      have f2 := HI.out.res.frozen 2
      have f3 := HI.out.res.frozen 3
      simp only [List.getElem?_toArray, List.getElem?_cons_zero, List.getElem?_cons_succ] at c0 c1 c2 c3 r0 r1 r2 r3
      have HS2 := Lib.hid (hs2 rfl)
      have Hfin := Lib.hid (And.intro hbx (And.intro hsp (And.intro hsb (And.intro hno hso))))
      clear hbx hsp hsb hno hso hs0 hs1 hs2
      go_wp2
      have hmk : Marks w.heap.size ((((W.setCell ⟨w.heap.size, 0, none⟩ (.int .i64 bm)).setCell ⟨w.heap.size, 1, none⟩ (.int .i64 bo)).setCell ⟨w.heap.size, 2, none⟩ (.slice bA bn bc)).setCell ⟨w.heap.size, 3, none⟩ (.slice bA' bn' bc')) ds :=
        HI.out.marks.keep fun D hD => by
          have h1 := HI.out.marks.lt hD
          have h2 : D ≠ w.heap.size := fun e => by
            rw [e] at h1
            have h3 := HI.out.res
            unfold Box at h3
            rw [h3] at h1
            cases h1
          rw [Below.heap_setCell _ ⟨w.heap.size, 3, none⟩ _ D h2, Below.heap_setCell _ ⟨w.heap.size, 2, none⟩ _ D h2, Below.heap_setCell _ ⟨w.heap.size, 1, none⟩ _ D h2, Below.heap_setCell _ ⟨w.heap.size, 0, none⟩ _ D h2]
      have hrs := plan_put HI.out.res (.int .i64 bm) (.int .i64 bo) (.slice bA bn bc) (.slice bA' bn' bc')
      have hoW := plan_only HI.out.only (N := w.heap.size) (.inr (Nat.le_refl _)) (.int .i64 bm) (.int .i64 bo) (.slice bA bn bc) (.slice bA' bn' bc')
      have hsrc : ∀ v xs, ISrc W v xs → (∀ ad k c', v = .slice (some ad) k c' → 0 < k → ad.block ≠ w.heap.size) → ISrc ((((W.setCell ⟨w.heap.size, 0, none⟩ (.int .i64 bm)).setCell ⟨w.heap.size, 1, none⟩ (.int .i64 bo)).setCell ⟨w.heap.size, 2, none⟩ (.slice bA bn bc)).setCell ⟨w.heap.size, 3, none⟩ (.slice bA' bn' bc')) v xs := fun v xs h hne =>
        h.only (plan_only (F := fun k => k = w.heap.size) (Only.refl _ W) (N := w.heap.size) (.inl rfl) _ _ _ _) (fun i _ hF ad k c' e hk => by rw [hF]; exact hne ad k c' e hk)
      have hsp2 := hsrc _ _ Hfin.out.2.1 (fun ad k c' e _ => by injection e with e _ _; have := hbl ad (.inl e); omega)
      have hsb2 := hsrc _ _ Hfin.out.2.2.1 (fun ad k c' e _ => by injection e with e _ _; have := hbl ad (.inr e); omega)
      clear hsrc c0 c1 c2 c3 r0 r1 r2 r3 f0 f1 f2 f3
      generalize (((W.setCell ⟨w.heap.size, 0, none⟩ (.int .i64 bm)).setCell ⟨w.heap.size, 1, none⟩ (.int .i64 bo)).setCell ⟨w.heap.size, 2, none⟩ (.slice bA bn bc)).setCell ⟨w.heap.size, 3, none⟩ (.slice bA' bn' bc') = W5 at *
      refine hmk.leave (fun V => Box V w.heap.size 26 #[iv bm, iv bo, .slice bA bn bc, .slice bA' bn' bc'] ∧ ISrc V (.slice bA bn bc) bps ∧ ISrc V (.slice bA' bn' bc') bbs ∧ Only Nix w V) .returning (by simp) (fun V D hV hD hK => ?_) (fun V hV => ?_) ⟨hrs, hsp2, hsb2, hoW⟩
      · exact ⟨box_put hV.1 hK rfl _, isrc_put hV.2.1 hK rfl _, isrc_put hV.2.2.1 hK rfl _, only_put hV.2.2.2 hD _⟩
      · have c0 := hV.1.cell 0
        have c1 := hV.1.cell 1
        have c2 := hV.1.cell 2
        have c3 := hV.1.cell 3
        simp only [List.getElem?_toArray, List.getElem?_cons_zero, List.getElem?_cons_succ] at c0 c1 c2 c3
        obtain ⟨st1, hs1, hs2⟩ := HS2.out
        refine ⟨planV bm bo (.slice bA bn bc) (.slice bA' bn' bc'), ?_, bm, bo, bA, bA', bn, bn', bc, bc', bps, bbs, st1, st, rfl, hV.2.1, hV.2.2.1, Hfin.out.2.2.2.1, Hfin.out.2.2.2.2, (fun ad e => by have := hbl ad e; omega), hs1, hs2, hV.2.2.2⟩
        simp [results, Tryz.f118, go_sem, c0, c1, c2, c3]
end Go.Proofs.YteklfkpeaadinaaGreatDoor
namespace Go.Proofs.YteklfkpeaadinaaGreatDoor
open Go.RowKit

/-- what is wrong -/
noncomputable def bestE (od s : Int) (l : List Int) : Int :=
  if od < 0 ∨ 15 < od then 10 else if ckB ((l.length : Int) + s) s ≠ 0 then ckB ((l.length : Int) + s) s else
  if ckP 0 (l.length + s.toNat) s.toNat ≠ 0 then ckP 0 (l.length + s.toNat) s.toNat else @ite _ (∀ x ∈ l, isR x) (Classical.propDecidable _) 0 10
/-- Best's answer -/
def BestR (w : World) (od s : Int) (l : List Int) (e : Ending) (w' : World) : Prop :=
  (bestE od s l ≠ 0 ∧ e = .returned (.tuple #[plan0, iv (bestE od s l)]) ∧ Only Nix w w') ∨
  (bestE od s l = 0 ∧ ∃ v, e = .returned (.tuple #[v, iv 0]) ∧ LeastR w od.toNat s.toNat (l.map fd) (.returned v) w')
set_option maxRecDepth 100000 in
set_option maxHeartbeats 2000000 in
theorem best_any {w : World} (od s : Int) (A : Option Addr) (n c : Nat) (l : List Int) (hs0 : -9223372036854775808 ≤ s) (hs1 : s ≤ 4611686018427387904) (hl : ISrc w (.slice A n c) l) :
    Calls Tryz.prog 92 #[iv od, iv s, .slice A n c] w fun e w' => BestR w od s l e w' := by
  obtain rfl := hl.len
  have hsm := hl.small
  obtain ⟨Wa, hWa⟩ : ∃ Wa, w.alloc (.cells #[Value.int .i64 0, Value.int .i64 0, .slice none 0 0, .slice none 0 0] 26) = Wa := ⟨_, rfl⟩
  have a0 := (Only.refl Nix w).alloc (.cells #[Value.int .i64 0, Value.int .i64 0, .slice none 0 0, .slice none 0 0] 26)
  have B0 := Lib.hid (Box.new w 26 #[Value.int .i64 0, Value.int .i64 0, .slice none 0 0, .slice none 0 0])
  rw [hWa] at a0 B0
  have HA := Lib.hid a0
  have d0 := B0.out.cell 0
  have d1 := B0.out.cell 1
  have d2 := B0.out.cell 2
  have d3 := B0.out.cell 3
  simp only [List.getElem?_toArray, List.getElem?_cons_zero, List.getElem?_cons_succ] at d0 d1 d2 d3
  have f0 := B0.out.frozen 0
  have f1 := B0.out.frozen 1
  have f2 := B0.out.frozen 2
  have f3 := B0.out.frozen 3
  have y := plan_put B0.out (iv 0) (iv 0) (.slice none 0 0) (.slice none 0 0)
  have y0 := y.cell 0
  have y1 := y.cell 1
  have y2 := y.cell 2
  have y3 := y.cell 3
  simp only [List.getElem?_toArray, List.getElem?_cons_zero, List.getElem?_cons_succ] at y0 y1 y2 y3
  have Z2 := Lib.hid (plan_only a0 (N := w.heap.size) (.inr (Nat.le_refl _)) (iv 0) (iv 0) (.slice none 0 0) (.slice none 0 0))
  clear y a0
  by_cases ho : od < 0
  · have HE : Hid (bestE od s l = 10) := Lib.hid (by unfold bestE; rw [if_pos (.inl ho)])
    have hod : decide (od < 0) = true := by simpa using ho
    go_enter Tryz.func92, Tryz.ntmps92
    go_wp2
    refine bodyPost_ret (v := .tuple #[plan0, iv 10]) ?_ rfl ?_
    · simp [results, Tryz.f92, go_sem, y0, y1, y2, y3]
    exact .inl ⟨by rw [HE.out]; decide, by rw [HE.out], Z2.out⟩
  · have hod : decide (od < 0) = false := by simpa using ho
    by_cases ho2 : 15 < od
    · have HE : Hid (bestE od s l = 10) := Lib.hid (by unfold bestE; rw [if_pos (.inr ho2)])
      have hod2 : decide (15 < od) = true := by simpa using ho2
      go_enter Tryz.func92, Tryz.ntmps92
      go_wp2
      refine bodyPost_ret (v := .tuple #[plan0, iv 10]) ?_ rfl ?_
      · simp [results, Tryz.f92, go_sem, y0, y1, y2, y3]
      exact .inl ⟨by rw [HE.out]; decide, by rw [HE.out], Z2.out⟩
    · have hod2 : decide (15 < od) = false := by simpa using ho2
      have HB := Lib.hid (checkBlock_any Wa ((l.length : Int) + s) s)
      by_cases hb : ckB ((l.length : Int) + s) s = 0
      · obtain ⟨b1, b2, b3, b4⟩ := ckB_zero hb
        obtain ⟨s, rfl⟩ := Int.eq_ofNat_of_zero_le b3
        obtain ⟨od, rfl⟩ := Int.eq_ofNat_of_zero_le (show 0 ≤ od by omega)
        rw [hb] at HB
        have HP := Lib.hid (checkParting_any Wa 0 (l.length + s) s (by omega) (by omega))
        rw [Int.natCast_add] at HP
        have HX := Lib.hid hl
        by_cases hp : ckP 0 (l.length + s) s = 0
        · rw [hp] at HP
          have HF := Lib.hid (foldAll_any (w := Wa) A c l (hl.nix HA.out) (by omega))
          have hn1 : 1 ≤ l.length := by
            have := (ckP_zero hp).2
            simp at this
            omega
          have HEv : Hid (bestE (od : Int) (s : Int) l = @ite _ (∀ x ∈ l, isR x) (Classical.propDecidable _) 0 10) := Lib.hid (by
            unfold bestE
            rw [if_neg (by omega), if_neg (by simpa using hb), Int.toNat_natCast, if_neg (by simpa using hp)])
          have hs32 : s ≤ 32 := by omega
          have hbl : l.length + s ≤ 65535 := by omega
          have hod15 : od ≤ 15 := by omega
          clear hb hp hl b1 b2 b3 b4
          generalize hNl : l.length = N at *
          have HN := Lib.hid hNl
          clear hNl
          go_enter Tryz.func92, Tryz.ntmps92
          go_wp2_with fail
          refine (HB.out).mono ?_
          rintro e w1 ⟨rfl, rfl⟩
          go_wp2_with fail
          refine (HP.out).mono ?_
          rintro e w1 ⟨rfl, rfl⟩
          go_wp2_with fail
          refine (HF.out).mono ?_
          rintro e w2 ⟨⟨hR, rfl, hBg⟩ | ⟨hR, rfl⟩, o2⟩
          · have B02 := Lib.hid (B0.out.only o2 (fun e => e))
            rw [fds_ivs] at hBg
            have hsrc : ISrc w2 (.slice (some ⟨Wa.heap.size, 0, none⟩) N N) (ivs (l.map fd)) := ISrc.of_box (t := 3) hBg (by rw [ivs_len, List.length_map, HN.out]) (Nat.le_refl _) (by rw [ivs_len, List.length_map, HN.out]; omega) (fun y hy => by
              unfold ivs at hy
              obtain ⟨z, hz, rfl⟩ := List.mem_map.1 hy
              obtain ⟨x, hx, rfl⟩ := List.mem_map.1 hz
              have := fd_lt (hR x hx)
              omega)
            have HLp := Lib.hid (leastPlan_walk od s ⟨Wa.heap.size, 0, none⟩ N N (l.map fd) hod15 hs32 (by rw [List.length_map, HN.out]; exact hn1) hsrc hbl (fun y hy => by
              obtain ⟨x, hx, rfl⟩ := List.mem_map.1 hy
              exact fd_lt (hR x hx)))
            have HE : Hid (bestE (od : Int) (s : Int) l = 0) := Lib.hid (by rw [HEv.out, if_pos hR])
            have Hsz := B02.out.lt
            have HO2 := Lib.hid (HA.out.trans o2)
            clear hsrc hBg o2
            go_wp2_with fail
            refine (HLp.out).mono ?_
            rintro e w3 ⟨bm, bo, bA, bA', bn, bn', bc, bc', bps, bbs, st1, st2, rfl, i1, i2, hno, hso, hbl2, hs1, hs2, o3⟩
            have B03 := Lib.hid (B02.out.only o3 (fun e => e))
            have g0 := B03.out.cell 0
            have g1 := B03.out.cell 1
            have g2 := B03.out.cell 2
            have g3 := B03.out.cell 3
            simp only [List.getElem?_toArray, List.getElem?_cons_zero, List.getElem?_cons_succ] at g0 g1 g2 g3
            have h0 := B03.out.frozen 0
            have h1 := B03.out.frozen 1
            have h2 := B03.out.frozen 2
            have h3 := B03.out.frozen 3
            have y := plan_put B03.out (iv bm) (iv bo) (.slice bA bn bc) (.slice bA' bn' bc')
            have oZ := plan_only (F := fun k => k = w.heap.size) (Only.refl _ w3) (N := w.heap.size) (.inl rfl) (iv bm) (iv bo) (.slice bA bn bc) (.slice bA' bn' bc')
            have oF := plan_only (HO2.out.trans o3) (N := w.heap.size) (.inr (Nat.le_refl _)) (iv bm) (iv bo) (.slice bA bn bc) (.slice bA' bn' bc')
            have j1 := i1.only oZ (fun i _ hF ad k c' e _ => by injection e with e _ _; have := hbl2 ad (.inl e); rw [hF]; omega)
            have j2 := i2.only oZ (fun i _ hF ad k c' e _ => by injection e with e _ _; have := hbl2 ad (.inr e); rw [hF]; omega)
            have HY := Lib.hid (And.intro y (And.intro oF (And.intro j1 j2)))
            have HR := Lib.hid (And.intro hno (And.intro hso (And.intro hbl2 (And.intro hs1 hs2))))
            clear y oZ oF j1 j2 i1 i2 hno hso hbl2 hs1 hs2 o3
            go_wp2
            have hsw := HO2.out.size
            have y := HY.out.1
            have y0 := y.cell 0
            have y1 := y.cell 1
            have y2 := y.cell 2
            have y3 := y.cell 3
            simp only [List.getElem?_toArray, List.getElem?_cons_zero, List.getElem?_cons_succ] at y0 y1 y2 y3
            refine bodyPost_ret (v := .tuple #[planV bm bo (.slice bA bn bc) (.slice bA' bn' bc'), iv 0]) ?_ rfl (.inr ⟨HE.out, planV bm bo (.slice bA bn bc) (.slice bA' bn' bc'), rfl, ?_⟩)
            · simp [results, Tryz.f92, go_sem, y0, y1, y2, y3]
            · rw [Int.toNat_natCast, Int.toNat_natCast]
              exact ⟨bm, bo, bA, bA', bn, bn', bc, bc', bps, bbs, st1, st2, rfl, HY.out.2.2.1, HY.out.2.2.2, HR.out.1, HR.out.2.1, (fun ad e => by have := HR.out.2.2.1 ad e; omega), HR.out.2.2.2.1, HR.out.2.2.2.2, HY.out.2.1⟩
          · have B02 := Lib.hid (B0.out.only o2 (fun e => e))
            have g0 := B02.out.cell 0
            have g1 := B02.out.cell 1
            have g2 := B02.out.cell 2
            have g3 := B02.out.cell 3
            simp only [List.getElem?_toArray, List.getElem?_cons_zero, List.getElem?_cons_succ] at g0 g1 g2 g3
            have h0 := B02.out.frozen 0
            have h1 := B02.out.frozen 1
            have h2 := B02.out.frozen 2
            have h3 := B02.out.frozen 3
            have HE : Hid (bestE (od : Int) (s : Int) l = 10) := Lib.hid (by rw [HEv.out, if_neg hR])
            have y := plan_put B02.out (iv 0) (iv 0) (.slice none 0 0) (.slice none 0 0)
            have Z3 := Lib.hid (plan_only (HA.out.trans o2) (N := w.heap.size) (.inr (Nat.le_refl _)) (iv 0) (iv 0) (.slice none 0 0) (.slice none 0 0))
            have y0' := y.cell 0
            have y1' := y.cell 1
            have y2' := y.cell 2
            have y3' := y.cell 3
            simp only [List.getElem?_toArray, List.getElem?_cons_zero, List.getElem?_cons_succ] at y0' y1' y2' y3'
            clear y o2
            go_wp2
            refine bodyPost_ret (v := .tuple #[plan0, iv 10]) ?_ rfl ?_
            · simp [results, Tryz.f92, go_sem, y0', y1', y2', y3']
            exact .inl ⟨by rw [HE.out]; decide, by rw [HE.out], Z3.out⟩
        · have HE : Hid (bestE (od : Int) (s : Int) l = ckP 0 (l.length + s) s) := Lib.hid (by
            unfold bestE
            rw [if_neg (by omega), if_neg (by simpa using hb), Int.toNat_natCast, if_pos hp])
          have Hb := Lib.hid hp
          have hbb : (ckP 0 (l.length + s) s != 0) = true := by simpa using hp
          clear hb hp hl b1 b2 b3 b4
          generalize ckP 0 (l.length + s) s = ce at *
          generalize l.length = n at *
          go_enter Tryz.func92, Tryz.ntmps92
          go_wp2_with fail
          refine (HB.out).mono ?_
          rintro e w1 ⟨rfl, rfl⟩
          go_wp2_with fail
          refine (HP.out).mono ?_
          rintro e w1 ⟨rfl, rfl⟩
          go_wp2
          refine bodyPost_ret (v := .tuple #[plan0, iv ce]) ?_ rfl ?_
          · simp [results, Tryz.f92, go_sem, y0, y1, y2, y3]
          exact .inl ⟨by rw [HE.out]; exact Hb.out, by rw [HE.out], Z2.out⟩
      · have HE : Hid (bestE od s l = ckB ((l.length : Int) + s) s) := Lib.hid (by unfold bestE; rw [if_neg (by omega), if_pos hb])
        have Hb := Lib.hid hb
        have hbb : (ckB ((l.length : Int) + s) s != 0) = true := by simpa using hb
        clear hb hl
        generalize ckB ((l.length : Int) + s) s = ce at *
        generalize l.length = n at *
        go_enter Tryz.func92, Tryz.ntmps92
        go_wp2_with fail
        refine (HB.out).mono ?_
        rintro e w1 ⟨rfl, rfl⟩
        go_wp2
        refine bodyPost_ret (v := .tuple #[plan0, iv ce]) ?_ rfl ?_
        · simp [results, Tryz.f92, go_sem, y0, y1, y2, y3]
        exact .inl ⟨by rw [HE.out]; exact Hb.out, by rw [HE.out], Z2.out⟩
end Go.Proofs.YteklfkpeaadinaaGreatDoor
