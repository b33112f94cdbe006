/-
  mix, walked.
-/
import Derived.Test.YtekmebbioalpdaaDoorDWords
import Derived.Deep.RegionHeld3
import Derived.Deep.DrawnRows
import Derived.Deep.Cut
import Derived.Deep.CutRange
import Derived.Test.YtekmebbioalpdaaDoorDRel
namespace Go.Proofs.YtekmebbioalpdaaDoor
open Go.RowKit

/-- The tables of package digest hold what start-up laid. -/
structure Laid (w : World) : Prop where
  k : w.rangeAt 0 0 (KS.map wv)
  t : ∀ j, j < 16 → w.cell? ⟨1, j, none⟩ = some (iv (TS.getD j 0 : Nat))
theorem Laid.only {F : Nat → Prop} {w w' : World} (h : Laid w) (ho : Only F w w') (h0 : ¬ F 0) (h1 : ¬ F 1) : Laid w' :=
  ⟨range_nix ho h.k h0, fun j hj => cell_only ho (h.t j hj) h1⟩
theorem Laid.nix {w w' : World} (h : Laid w) (ho : Only Nix w w') : Laid w' := h.only ho (fun e => e) (fun e => e)
theorem Laid.size {w : World} (h : Laid w) : 2 ≤ w.heap.size := by
  have h1 := World.block_lt_of_cell? w _ (h.t 0 (by decide))
  exact h1
/-- a state's cells -/
def stc (q : Q) (p : List Nat) (many : Int) : List Value := [wv q.a, wv q.b, wv q.c, wv q.d] ++ p.map byt ++ [iv many]
theorem stc_len (q : Q) (p : List Nat) (many : Int) : (stc q p many).length = p.length + 5 := by simp [stc]
theorem stc_p (q : Q) (p : List Nat) (many : Int) (w : World) (b : Nat) (t : TypeId) (h : Box w b t (stc q p many).toArray) : w.rangeAt b 4 (p.map byt) := range_box (pre := [wv q.a, wv q.b, wv q.c, wv q.d]) h
theorem stc_q (q : Q) (p : List Nat) (many : Int) : (stc q p many).toArray[0]? = some (wv q.a) ∧ (stc q p many).toArray[1]? = some (wv q.b) ∧ (stc q p many).toArray[2]? = some (wv q.c) ∧ (stc q p many).toArray[3]? = some (wv q.d) := ⟨rfl, rfl, rfl, rfl⟩

/-- the four numbers, in cells of their own -/
def MixR (W : World) (q : Q) (s3 s4 s5 s6 : Value) (wx : World) : Prop :=
  ∃ g4 g5 g6 : Nat, s3 = wv q.a ∧ s4 = .pointer (some ⟨g4, 0, none⟩) ∧ s5 = .pointer (some ⟨g5, 0, none⟩) ∧ s6 = .pointer (some ⟨g6, 0, none⟩) ∧
    Box wx g4 47 #[wv q.b] ∧ Box wx g5 47 #[wv q.c] ∧ Box wx g6 47 #[wv q.d] ∧ g4 ≠ g5 ∧ g5 ≠ g6 ∧ g4 ≠ g6 ∧ W.heap.size ≤ g4 ∧ W.heap.size ≤ g5 ∧ W.heap.size ≤ g6 ∧ Only Nix W wx

/-- the four closures -/
def fns (g4 g5 g6 : Nat) : List Value :=
  [.func (.func 31) #[] #[.pointer (some ⟨g4, 0, none⟩), .pointer (some ⟨g5, 0, none⟩), .pointer (some ⟨g6, 0, none⟩)],
   .func (.func 32) #[] #[.pointer (some ⟨g6, 0, none⟩), .pointer (some ⟨g4, 0, none⟩), .pointer (some ⟨g5, 0, none⟩)],
   .func (.func 33) #[] #[.pointer (some ⟨g4, 0, none⟩), .pointer (some ⟨g5, 0, none⟩), .pointer (some ⟨g6, 0, none⟩)],
   .func (.func 34) #[] #[.pointer (some ⟨g5, 0, none⟩), .pointer (some ⟨g4, 0, none⟩), .pointer (some ⟨g6, 0, none⟩)]]
theorem fns_one (g4 g5 g6 : Nat) : ∀ v ∈ fns g4 g5 g6, v.oneCell' = true := by
  intro v hv
  simp only [fns, List.mem_cons, List.not_mem_nil, or_false] at hv
  rcases hv with rfl | rfl | rfl | rfl <;> rfl
/-- where mixing stands: i rounds are done -/
structure MixL (w : World) (b : Nat) (t : TypeId) (N0 g4 g5 g6 gF : Nat) (MM : List Value) (M : List Nat) (q : Q) (p : List Nat) (many : Int) (i : Nat) (wr : World) : Prop where
  b4 : Box wr g4 47 #[wv (rnds M i q).b]
  b5 : Box wr g5 47 #[wv (rnds M i q).c]
  b6 : Box wr g6 47 #[wv (rnds M i q).d]
  bF : Box wr gF 69 (fns g4 g5 g6).toArray
  bM : Box wr N0 66 MM.toArray
  bS : Box wr b t (stc q p many).toArray
  only : Only Nix w wr
def MixP (w : World) (b : Nat) (t : TypeId) (N0 g4 g5 g6 gF : Nat) (MM : List Value) (M : List Nat) (q : Q) (p : List Nat) (many : Int) (s3 s43 : Value) (wr : World) : Prop :=
  ∃ i : Nat, i ≤ 64 ∧ s43 = iv i ∧ s3 = .int .u32 ((rnds M i q).a : Nat) ∧ MixL w b t N0 g4 g5 g6 gF MM M q p many i wr
theorem rotl' {w : World} (x s : Nat) (hx : x < 4294967296) (hs : s < 32) :
    Calls Tryd.prog 35 #[.int .u32 (x : Int), .int .i64 (s : Int)] w fun e w' => e = .returned (.int .u32 (rt x s : Nat)) ∧ w' = w :=
  (rotl x s hx hs).mono fun _ _ h => ⟨h.1, h.2.symm⟩
theorem TS_lt : ∀ j, j < 16 → TS.getD j 0 < 32 := by decide
theorem KS_lt : ∀ j, j < 64 → KS.getD j 0 < 4294967296 := by decide
theorem KS_at : ∀ j, j < 64 → (KS.map wv)[j]? = some (wv (KS.getD j 0)) := fun j hj => by
  rw [List.getElem?_map, List.getElem?_eq_getElem (by exact hj), List.getD_eq_getElem?_getD, List.getElem?_eq_getElem (by exact hj)]
  rfl
theorem wds_at (p : List Nat) (k : Nat) (hk : k < 16) : ((wds p).map wv)[k]? = some (wv ((wds p).getD k 0)) := by
  have hl : (wds p).length = 16 := by simp [wds]
  rw [List.getElem?_map, List.getD_eq_getElem?_getD, List.getElem?_eq_getElem (by omega)]
  rfl
theorem gg_lt (i : Nat) (h : i < 64) : gg i < 512 := by unfold gg; (repeat' split) <;> omega
theorem wd_lt {p : List Nat} (h : ∀ x ∈ p, x < 256) (k : Nat) : wd p k < 4294967296 := by
  have h0 := getD_lt h (4 * k)
  have h1 := getD_lt h (4 * k + 1)
  have h2 := getD_lt h (4 * k + 2)
  have h3 := getD_lt h (4 * k + 3)
  unfold wd
  omega
theorem wds_lt {p : List Nat} (h : ∀ x ∈ p, x < 256) (k : Nat) : (wds p).getD k 0 < 4294967296 := by
  rw [List.getD_eq_getElem?_getD]
  cases hj : (wds p)[k]? with
  | none => simp
  | some x =>
    obtain ⟨j, _, rfl⟩ := List.mem_map.1 (List.mem_of_getElem? hj)
    exact wd_lt h j
theorem ad_cast (x y : Nat) : ((x : Int) + (y : Int)) % 4294967296 = ((ad x y : Nat) : Int) := by unfold ad; omega
/-- the first j of the four added -/
def upd (j : Nat) (q r : Q) : Q := ⟨if 0 < j then ad q.a r.a else q.a, if 1 < j then ad q.b r.b else q.b, if 2 < j then ad q.c r.c else q.c, if 3 < j then ad q.d r.d else q.d⟩
/-- the cells on the way through a round's last statement: which stores are done -/
structure MixW (w : World) (b : Nat) (t : TypeId) (N0 g4 g5 g6 gF : Nat) (MM : List Value) (q : Q) (p : List Nat) (many : Int) (rb rc rd x4 : Nat) (L : Nat → Bool) (u : World) : Prop where
  b4 : Box u g4 47 #[if L 17 = true then wv x4 else wv rb]
  b5 : Box u g5 47 #[if L 16 = true then wv rb else wv rc]
  b6 : Box u g6 47 #[if L 15 = true then wv rc else wv rd]
  bF : Box u gF 69 (fns g4 g5 g6).toArray
  bM : Box u N0 66 MM.toArray
  bS : Box u b t (stc q p many).toArray
  only : Only Nix w u
section
variable {w u : World} {b : Nat} {t : TypeId} {N0 g4 g5 g6 gF : Nat} {MM : List Value} {q : Q} {p : List Nat} {many : Int} {rb rc rd x4 : Nat} {L : Nat → Bool}
theorem MixW.same {i : Nat} (h : MixW w b t N0 g4 g5 g6 gF MM q p many rb rc rd x4 L u) (h5 : 15 ≠ i) (h6 : 16 ≠ i) (h7 : 17 ≠ i) : MixW w b t N0 g4 g5 g6 gF MM q p many rb rc rd x4 (andOne L i) u := by
  refine ⟨?_, ?_, ?_, h.bF, h.bM, h.bS, h.only⟩
  · have := h.b4; unfold andOne; rw [if_neg h7]; exact this
  · have := h.b5; unfold andOne; rw [if_neg h6]; exact this
  · have := h.b6; unfold andOne; rw [if_neg h5]; exact this
theorem MixW.st6 (h : MixW w b t N0 g4 g5 g6 gF MM q p many rb rc rd x4 L u) (_ : Unit) (_ : g4 ≠ g5) (n46 : g4 ≠ g6) (n56 : g5 ≠ g6) (_ : gF ≠ g4) (_ : gF ≠ g5) (lF6 : gF ≠ g6) (_ : N0 ≠ g4) (_ : N0 ≠ g5) (lM6 : N0 ≠ g6) (_ : b ≠ g4) (_ : b ≠ g5) (lS6 : b ≠ g6) (lw : w.heap.size ≤ g6) :
    MixW w b t N0 g4 g5 g6 gF MM q p many rb rc rd x4 (andOne L 15) (u.setCell ⟨g6, 0, none⟩ (.int .u32 (rc : Int))) :=
  ⟨h.b4.off (p := ⟨g6, 0, none⟩) n46 _, h.b5.off (p := ⟨g6, 0, none⟩) n56 _, h.b6.put 0 _, h.bF.off (p := ⟨g6, 0, none⟩) lF6 _, h.bM.off (p := ⟨g6, 0, none⟩) lM6 _, h.bS.off (p := ⟨g6, 0, none⟩) lS6 _, h.only.setCell (p := ⟨g6, 0, none⟩) (.inr lw) _⟩
theorem MixW.st5 (h : MixW w b t N0 g4 g5 g6 gF MM q p many rb rc rd x4 L u) (_ : Unit) (n45 : g4 ≠ g5) (_ : g4 ≠ g6) (n56 : g5 ≠ g6) (_ : gF ≠ g4) (lF5 : gF ≠ g5) (_ : gF ≠ g6) (_ : N0 ≠ g4) (lM5 : N0 ≠ g5) (_ : N0 ≠ g6) (_ : b ≠ g4) (lS5 : b ≠ g5) (_ : b ≠ g6) (lw : w.heap.size ≤ g5) :
    MixW w b t N0 g4 g5 g6 gF MM q p many rb rc rd x4 (andOne L 16) (u.setCell ⟨g5, 0, none⟩ (.int .u32 (rb : Int))) :=
  ⟨h.b4.off (p := ⟨g5, 0, none⟩) n45 _, h.b5.put 0 _, h.b6.off (p := ⟨g5, 0, none⟩) (fun e => n56 e.symm) _, h.bF.off (p := ⟨g5, 0, none⟩) lF5 _, h.bM.off (p := ⟨g5, 0, none⟩) lM5 _, h.bS.off (p := ⟨g5, 0, none⟩) lS5 _, h.only.setCell (p := ⟨g5, 0, none⟩) (.inr lw) _⟩
theorem MixW.st4 (h : MixW w b t N0 g4 g5 g6 gF MM q p many rb rc rd x4 L u) (_ : Unit) (n45 : g4 ≠ g5) (n46 : g4 ≠ g6) (_ : g5 ≠ g6) (lF4 : gF ≠ g4) (_ : gF ≠ g5) (_ : gF ≠ g6) (lM4 : N0 ≠ g4) (_ : N0 ≠ g5) (_ : N0 ≠ g6) (lS4 : b ≠ g4) (_ : b ≠ g5) (_ : b ≠ g6) (lw : w.heap.size ≤ g4) :
    MixW w b t N0 g4 g5 g6 gF MM q p many rb rc rd x4 (andOne L 17) (u.setCell ⟨g4, 0, none⟩ (.int .u32 (x4 : Int))) :=
  ⟨h.b4.put 0 _, h.b5.off (p := ⟨g4, 0, none⟩) (fun e => n45 e.symm) _, h.b6.off (p := ⟨g4, 0, none⟩) (fun e => n46 e.symm) _, h.bF.off (p := ⟨g4, 0, none⟩) lF4 _, h.bM.off (p := ⟨g4, 0, none⟩) lM4 _, h.bS.off (p := ⟨g4, 0, none⟩) lS4 _, h.only.setCell (p := ⟨g4, 0, none⟩) (.inr lw) _⟩
end
/-- what waits for an operation has not come before it -/
theorem notYet {ops : Array Oper} {L : Nat → Bool} (hc : ∀ j o k, ops[j]? = some o → L j = true → needs o k = true → L k = true) {j k : Nat} {o : Oper} (ho : ops[j]? = some o) (hn : needs o k = true) (hk : L k = false) : L j = false := by
  cases h : L j with
  | false => rfl
  | true => rw [hc j o k ho h hn] at hk; cases hk
/-- the end: the first j of the four are added -/
def EndP (w : World) (b : Nat) (t : TypeId) (q r : Q) (p : List Nat) (many : Int) (s86 : Value) (wz : World) : Prop :=
  ∃ j : Nat, j ≤ 4 ∧ s86 = iv j ∧ Box wz b t (stc (upd j q r) p many).toArray ∧ Only (Just b) w wz
theorem mx_upd (n : Nat) (M : List Nat) (q : Q) (hn : n = 64) : upd 4 q (rnds M n q) = mx M q := by
  rw [mx_is, ← hn]
  rfl
theorem box3 {W : World} {n : Nat} (hn : W.heap.size = n) (t : TypeId) (x y z : Value) :
    Box (((W.alloc (.cells #[x] t)).alloc (.cells #[y] t)).alloc (.cells #[z] t)).drew n t #[x] ∧ Box (((W.alloc (.cells #[x] t)).alloc (.cells #[y] t)).alloc (.cells #[z] t)).drew (n + 1) t #[y] ∧ Box (((W.alloc (.cells #[x] t)).alloc (.cells #[y] t)).alloc (.cells #[z] t)).drew (n + 1 + 1) t #[z] ∧ Only Nix W (((W.alloc (.cells #[x] t)).alloc (.cells #[y] t)).alloc (.cells #[z] t)).drew := by
  subst hn
  refine ⟨((Box.new W t #[x]).alloc _).alloc _, ?_, ?_, ((((Only.refl _ _).alloc _).alloc _).alloc _).drew⟩
  · have := (Box.new (W.alloc (.cells #[x] t)) t #[y]).alloc (.cells #[z] t)
    rw [World.size_alloc] at this
    exact this
  · have := Box.new ((W.alloc (.cells #[x] t)).alloc (.cells #[y] t)) t #[z]
    rw [World.size_alloc, World.size_alloc] at this
    exact this
set_option maxRecDepth 100000 in
set_option maxHeartbeats 4000000 in
theorem mix_any {w : World} (hL : Laid w) (b : Nat) (t : TypeId) (q : Q) (p : List Nat) (many : Int) (hq : q.ok) (hp : p.length = 64) (hlt : ∀ x ∈ p, x < 256) (hB : Box w b t (stc q p many).toArray) :
    Calls Tryd.prog 28 #[.pointer (some ⟨b, 0, none⟩)] w fun e w' => e = .returned (.tuple #[]) ∧ Box w' b t (stc (mx (wds p) q) p many).toArray ∧ Only (Just b) w w' := by
  have HL := Lib.hid hL
  have HB := Lib.hid hB
  have HW := Lib.hid (words_any b p hp hlt (stc_p q p many w b t hB))
  have hM : ((wds p).map wv).length = 16 := by simp [wds]
  have hM1 := map_wv_one (wds p)
  have HM := Lib.hid hM
  have HM1 := Lib.hid hM1
  clear hL hB hM hM1 hp hlt
  go_enter Tryd.func28, Tryd.ntmps28
  go_wp2_with fail
  refine (HW.out).mono ?_
  rintro e w1 ⟨rfl, o1⟩
  have hB1 := Lib.hid (HB.out.only (F := Nix) o1 (fun e => e))
  generalize hMM : (wds p).map wv = MM at *
  have hMi : (Tryd.prog.info? 66).map (·.size) = some MM.length := by
    rw [HM.out]; kernel_rfl
  have HMi := Lib.hid hMi
  have HMM := Lib.hid hMM
  clear hMi hMM
  have hN0 := hB1.out.lt
  go_upto_region 1 with (refine wpList_store_arr rfl rfl 66 _ _ rfl w1.heap.size 0 MM rfl rfl ((Box.new _ _ _).there (by rw [HM.out]; decide)) HMi.out HM1.out ?_)
  have o2 := (o1.alloc (.cells (Array.replicate 16 (wv 0)) 66)).setCells (.inr o1.size) MM 0
  have hM2 := (Box.new w1 66 (List.replicate 16 (wv 0)).toArray).setAll (vs := MM) (by rw [HM.out]; rfl)
  have hS2 := (hB1.out.alloc (.cells (Array.replicate 16 (wv 0)) 66)).offCells (g := w1.heap.size) (by omega) MM 0
  have hz2 : ((w1.alloc (.cells (Array.replicate 16 (wv 0)) 66)).setCells w1.heap.size 0 MM).heap.size = w1.heap.size + 1 := by
    rw [size_setCells]; simp
  change Code.wp _ _ _ _ ((w1.alloc (.cells (Array.replicate 16 (wv 0)) 66)).setCells w1.heap.size 0 MM)
  change Box ((w1.alloc (.cells (Array.replicate 16 (wv 0)) 66)).setCells w1.heap.size 0 MM) _ _ _ at hM2
  generalize (w1.alloc (.cells (Array.replicate 16 (wv 0)) 66)).setCells w1.heap.size 0 MM = W2 at *
  obtain ⟨c0, c1, c2, c3⟩ := stc_q q p many
  rw [← hS2.cell] at c0 c1 c2 c3
  have HM2 := Lib.hid hM2
  have HS2 := Lib.hid hS2
  clear hM2 hS2
  go_cut [3, 4, 5, 6] from 15 (fun s3 s4 s5 s6 wx => MixR W2 q s3 s4 s5 s6 wx)
  case first =>
    unfold wv at c0 c1 c2 c3
    have HC : Hid (∀ u, Only Nix W2 u → u.cell? ⟨b, 0, none⟩ = some (.int .u32 (q.a : Int)) ∧ u.cell? ⟨b, 1, none⟩ = some (.int .u32 (q.b : Int)) ∧ u.cell? ⟨b, 2, none⟩ = some (.int .u32 (q.c : Int)) ∧ u.cell? ⟨b, 3, none⟩ = some (.int .u32 (q.d : Int))) :=
      fun u o => ⟨cell_keep o c0, cell_keep o c1, cell_keep o c2, cell_keep o c3⟩
    go_region_held3 (fun w' => w'.cell? ⟨b, 0, none⟩ = some (.int .u32 (q.a : Int)) ∧ w'.cell? ⟨b, 1, none⟩ = some (.int .u32 (q.b : Int)) ∧ w'.cell? ⟨b, 2, none⟩ = some (.int .u32 (q.c : Int)) ∧ w'.cell? ⟨b, 3, none⟩ = some (.int .u32 (q.d : Int))) ((refine HC.out _ ?_; repeat' first | exact Only.refl _ _ | refine Only.drew ?_ | refine Only.alloc ?_ _ | refine Only.setCell ?_ (.inr (by simp)) _)) (fail)
    all_goals clear HC c0 c1 c2 c3
    all_goals go_wp2
    all_goals go_meet
    all_goals
      refine ⟨_, _, _, rfl, rfl, rfl, rfl, ?_, ?_, ?_, by omega, by omega, by omega, by omega, by omega, by omega, (box3 hz2 _ _ _ _).2.2.2⟩
    all_goals first
      | exact (box3 hz2 _ _ _ _).1
      | exact (box3 hz2 _ _ _ _).2.1
      | exact (box3 hz2 _ _ _ _).2.2.1
  case rest =>
    clear c0 c1 c2 c3
    obtain ⟨g4, g5, g6, rfl, rfl, rfl, rfl, b4, b5, b6, n45, n56, n46, l4, l5, l6, o3⟩ := hcut
    obtain ⟨KK, HKK⟩ : ∃ KK, Hid (KK = KS.map wv) := ⟨_, Lib.hid rfl⟩
    have hki : (Tryd.prog.info? 70).map (·.size) = some KK.length := by rw [HKK.out]; kernel_rfl
    have HKi := Lib.hid hki
    have hfi : (Tryd.prog.info? 69).map (·.size) = some (fns g4 g5 g6).length := by kernel_rfl
    have HFi := Lib.hid hfi
    have hl3 : W2.heap.size ≤ wc.heap.size := o3.size
    have hl4 := b4.lt
    have hl5 := b5.lt
    have hl6 := b6.lt
    have hN1 : w.heap.size ≤ w1.heap.size := o1.size
    have HX : Hid (MixL w b t w1.heap.size g4 g5 g6 wc.heap.size MM (wds p) q p many 0 ((wc.alloc (.cells #[.nilFunc, .nilFunc, .nilFunc, .nilFunc] 69)).setCells wc.heap.size 0 (fns g4 g5 g6))) := by
      refine Lib.hid ⟨?_, ?_, ?_, ?_, ?_, ?_, ?_⟩
      · exact (b4.alloc _).offCells (by omega) _ _
      · exact (b5.alloc _).offCells (by omega) _ _
      · exact (b6.alloc _).offCells (by omega) _ _
      · exact (Box.new wc 69 #[.nilFunc, .nilFunc, .nilFunc, .nilFunc]).setAll (vs := fns g4 g5 g6) rfl
      · exact ((HM2.out.only o3 (fun e => e)).alloc _).offCells (by omega) _ _
      · exact ((HS2.out.only o3 (fun e => e)).alloc _).offCells (by omega) _ _
      · exact ((o2.trans o3).alloc _).setCells (.inr (by omega)) _ _
    have HKw : Hid (((wc.alloc (.cells #[.nilFunc, .nilFunc, .nilFunc, .nilFunc] 69)).setCells wc.heap.size 0 (fns g4 g5 g6)).rangeAt 0 0 KK) := by
      refine Lib.hid ?_
      rw [HKK.out]
      exact (HL.out.nix HX.out.only).k
    clear hki hfi b4 b5 b6
    go_upto_region 3 with (refine wpList_store_arr rfl rfl 69 _ _ rfl wc.heap.size 0 (fns g4 g5 g6) rfl rfl ((Box.new _ _ _).there (by exact Nat.le_refl 4)) HFi.out (fns_one _ _ _) ?_)
    generalize (wc.alloc (.cells #[.nilFunc, .nilFunc, .nilFunc, .nilFunc] 69)).setCells wc.heap.size 0 (fns g4 g5 g6) = W4 at *
    generalize wc.heap.size = gF at *
    go_wp2_with (refine wpList_load_mid rfl 70 _ rfl 0 0 rfl KK _ HKw.out Tryd.underlying70 rfl HKi.out ?_)
    go_loopw [3, 43] (fun s3 s43 wr => MixP w b t w1.heap.size g4 g5 g6 gF MM (wds p) q p many s3 s43 wr) (fun _ s43 _ => 64 - (intOf s43).toNat)
    case atStart => exact ⟨0, by omega, rfl, rfl, HX.out⟩
    case round =>
      obtain ⟨i, hi, rfl, rfl, hX⟩ := hrel
      have hok := rnds_ok (wds p) i hq
      have ho := hX.only
      by_cases hlt : i < 64
      · have hKx : KK[i]? = some (.int .u32 (KS.getD i 0 : Nat)) := by rw [HKK.out]; exact KS_at i hlt
        have hix := run_index_arr (P := Tryd.prog) Tryd.underlying70 Tryd.underlying47 rfl (by kernel_rfl) hlt hKx
        have hTx := (HL.out.nix ho).t (i / 16 * 4 + i % 4) (by omega)
        have hT32 := TS_lt (i / 16 * 4 + i % 4) (by omega)
        have hMx := hX.bM.cell (gg i % 16)
        rw [← HMM.out, List.getElem?_toArray, wds_at p _ (Nat.mod_lt _ (by decide))] at hMx
        have hR : rnds (wds p) (i + 1) q = rnd (wds p) i (rnds (wds p) i q) := rfl
        have HR := Lib.hid hR
        have HX5 := Lib.hid hX
        obtain ⟨h4, h5, h6, hF, _, _, _⟩ := hX
        have d4 := h4.cell 0
        have d5 := h5.cell 0
        have d6 := h6.cell 0
        have f4 := h4.frozen 0
        have f5 := h5.frozen 0
        have f6 := h6.frozen 0
        have HF := Lib.hid hF
        have HRn : Hid (smd (wds p) i (rnds (wds p) i q) = ad (ad (ad (rnds (wds p) i q).a (ff i (rnds (wds p) i q).b (rnds (wds p) i q).c (rnds (wds p) i q).d)) (KS.getD i 0)) ((wds p).getD (gg i % 16) 0)) := Lib.hid rfl
        have hk32 := KS_lt i hlt
        have hgl := gg_lt i hlt
        clear h4 h5 h6 hF hKx hR
        generalize KS.getD i 0 = ki at *
        generalize (wds p).getD (gg i % 16) 0 = mi at *
        generalize hsi : TS.getD (i / 16 * 4 + i % 4) 0 = si at *
        have Hsi := Lib.hid hsi
        clear hsi
        obtain ⟨ok1, ok2, ok3, ok4⟩ := hok
        generalize hr0 : rnds (wds p) i q = r at *
        have Hr0 := Lib.hid hr0
        clear hr0
        obtain ⟨ra, rb, rc, rd⟩ := r
        have d4' : wr.cell? ⟨g4, 0, none⟩ = some (.int .u32 (rb : Int)) := d4
        have d5' : wr.cell? ⟨g5, 0, none⟩ = some (.int .u32 (rc : Int)) := d5
        have d6' : wr.cell? ⟨g6, 0, none⟩ = some (.int .u32 (rd : Int)) := d6
        clear d4 d5 d6
        simp only at ok1 ok2 ok3 ok4
        have hlt2 : (i : Int) < 64 := by omega
        have h0i : (0 : Int) ≤ (i : Int) := by omega
        go_upto_region 6 with fail
        go_cut [10, 11, 43] from 43 to 80 (fun s10 s11 s43 wx => s10 = .int .u32 (ff i rb rc rd : Nat) ∧ s11 = .int .i64 (gg i : Nat) ∧ s43 = iv i ∧ wx = wr)
        case first =>
          clear hix hTx hMx
          have HC1 : Hid (i < 16 → _) := Lib.hid (fun h => clos1 (w := wr) i rb rc rd ⟨g4, 0, none⟩ ⟨g5, 0, none⟩ ⟨g6, 0, none⟩ h d4' d5' d6' ok2 ok3 ok4)
          have HC2 : Hid (16 ≤ i → i < 32 → _) := Lib.hid (fun h0 h => clos2 (w := wr) i rb rc rd ⟨g4, 0, none⟩ ⟨g5, 0, none⟩ ⟨g6, 0, none⟩ h0 h d4' d5' d6' ok2 ok3 ok4)
          have HC3 : Hid (32 ≤ i → i < 48 → _) := Lib.hid (fun h0 h => clos3 (w := wr) i rb rc rd ⟨g4, 0, none⟩ ⟨g5, 0, none⟩ ⟨g6, 0, none⟩ h0 h d4' d5' d6' ok2 ok3 ok4)
          have HC4 : Hid (48 ≤ i → i < 64 → _) := Lib.hid (fun h0 h => clos4 (w := wr) i rb rc rd ⟨g4, 0, none⟩ ⟨g5, 0, none⟩ ⟨g6, 0, none⟩ h0 h d4' d5' d6' ok2 ok3 ok4)
          obtain h1 | ⟨h0, h1⟩ | ⟨h0, h1⟩ | ⟨h0, h1⟩ : i < 16 ∨ (16 ≤ i ∧ i < 32) ∨ (32 ≤ i ∧ i < 48) ∨ (48 ≤ i ∧ i < 64) := by omega
          · have hf := HF.out.cell 0
            have e1 : i / 16 = 0 := by omega
            have e2 : (i : Int) / 16 = 0 := by omega
            simp only [fns] at hf
            go_wp2_with fail
            refine (HC1.out h1).mono ?_
            rintro e w3 ⟨rfl, rfl⟩
            clear hf
            go_wp2
            go_meet
            exact ⟨rfl, rfl, rfl, rfl⟩
          · have hf := HF.out.cell 1
            have e1 : i / 16 = 1 := by omega
            have e2 : (i : Int) / 16 = 1 := by omega
            simp only [fns] at hf
            go_wp2_with fail
            refine (HC2.out h0 h1).mono ?_
            rintro e w3 ⟨rfl, rfl⟩
            clear hf
            go_wp2
            go_meet
            exact ⟨rfl, rfl, rfl, rfl⟩
          · have hf := HF.out.cell 2
            have e1 : i / 16 = 2 := by omega
            have e2 : (i : Int) / 16 = 2 := by omega
            simp only [fns] at hf
            go_wp2_with fail
            refine (HC3.out h0 h1).mono ?_
            rintro e w3 ⟨rfl, rfl⟩
            clear hf
            go_wp2
            go_meet
            exact ⟨rfl, rfl, rfl, rfl⟩
          · have hf := HF.out.cell 3
            have e1 : i / 16 = 3 := by omega
            have e2 : (i : Int) / 16 = 3 := by omega
            simp only [fns] at hf
            go_wp2_with fail
            refine (HC4.out h0 h1).mono ?_
            rintro e w3 ⟨rfl, rfl⟩
            clear hf
            go_wp2
            go_meet
            exact ⟨rfl, rfl, rfl, rfl⟩
        case rest =>
          obtain ⟨rfl, rfl, rfl, rfl⟩ := hcut
          have hff := ff_lt i rb rc rd ok2 ok3 ok4
          have HS1 := HRn
          simp only at HS1
          generalize ff i rb rc rd = fi at *
          generalize gg i = gi at *
          have s1 := ad_cast ra fi
          have s2 := ad_cast (ad ra fi) ki
          have s3 := ad_cast (ad (ad ra fi) ki) mi
          have s4 := ad_lt (ad (ad ra fi) ki) mi
          rw [← HS1.out] at s3 s4
          generalize ad (ad ra fi) ki = x2 at *
          generalize ad ra fi = x1 at *
          generalize hx3 : smd (wds p) i ⟨ra, rb, rc, rd⟩ = x3 at *
          have Hx3 := Lib.hid hx3
          clear hx3
          clear hix
          unfold wv at hMx
          go_upto_region 8 with fail
          obtain ⟨e, m, hem⟩ : ∃ e m : Nat, Hid (i / 16 = e ∧ i % 4 = m) := ⟨_, _, Lib.hid ⟨rfl, rfl⟩⟩
          have he4 : e < 4 := by have := hem.out; omega
          have hm4 : m < 4 := by have := hem.out; omega
          have he5 : (e : Int) < 4 := by omega
          have hm5 : (m : Int) < 4 := by omega
          have he6 : (0 : Int) ≤ (e : Int) := by omega
          have hm6 : (0 : Int) ≤ (m : Int) := by omega
          have we : IntKind.i64.wrap ((i : Int) / 16) = (e : Int) := by rw [wraps_i64 _ (by omega) (by omega)]; have := hem.out; omega
          have wm2 : (i : Int).tmod 4 = (m : Int) := by rw [Int.tmod_eq_emod_of_nonneg (by omega)]; have := hem.out; omega
          have HT : Hid (∀ u, Only Nix w u → u.cell? ⟨1, e * 4 + m, none⟩ = some (iv (si : Int))) := by
            refine Lib.hid (fun u o => ?_)
            have := (HL.out.nix o).t (i / 16 * 4 + i % 4) (by omega)
            rw [Hsi.out, hem.out.1, hem.out.2] at this
            exact this
          have s5 := ad_cast rb (rt x3 si)
          have s6 := add32 rb (rt x3 si)
          generalize hx4 : ad rb (rt x3 si) = x4 at *
          have Hx4 := Lib.hid hx4
          clear hx4
          generalize hx5 : rt x3 si = x5 at *
          have Hx5 := Lib.hid hx5
          clear hx5
          have hw0 : w.heap.size ≤ w1.heap.size := o1.size
          have lF4 : gF ≠ g4 := by omega
          have lF5 : gF ≠ g5 := by omega
          have lF6 : gF ≠ g6 := by omega
          have lM4 : w1.heap.size ≠ g4 := by omega
          have lM5 : w1.heap.size ≠ g5 := by omega
          have lM6 : w1.heap.size ≠ g6 := by omega
          have lS4 : b ≠ g4 := by omega
          have lS5 : b ≠ g5 := by omega
          have lS6 : b ≠ g6 := by omega
          have lw4 : w.heap.size ≤ g4 := by omega
          have lw5 : w.heap.size ≤ g5 := by omega
          have lw6 : w.heap.size ≤ g6 := by omega
          have X5 : Box wc g4 47 #[wv rb] ∧ Box wc g5 47 #[wv rc] ∧ Box wc g6 47 #[wv rd] := by
            have h1 := HX5.out.b4
            have h2 := HX5.out.b5
            have h3 := HX5.out.b6
            rw [Hr0.out] at h1 h2 h3
            exact ⟨h1, h2, h3⟩
          have noOut : ∀ j s, j < 18 → (([some 66, some 67, some 68, some 69, some 70, some 71, some 72, some 73, some 74, some 75, some 76, some 77, some 78, some 79, some 3, none, none, none] : List (Option Nat)).all fun d => d != some s) = true → ([some 66, some 67, some 68, some 69, some 70, some 71, some 72, some 73, some 74, some 75, some 76, some 77, some 78, some 79, some 3, none, none, none] : List (Option Nat)).getD j none ≠ some s := by
            intro j s hj ha e
            rw [List.getD_eq_getElem?_getD, List.getElem?_eq_getElem (by exact hj), Option.getD_some] at e
            have := List.all_eq_true.1 ha _ (List.getElem_mem (by exact hj))
            rw [e] at this
            simp at this
          have HX6 : Hid (MixW w b t w1.heap.size g4 g5 g6 gF MM q p many rb rc rd x4 (fun _ => false) wc.drew) :=
            ⟨X5.1.drew, X5.2.1.drew, X5.2.2.drew, HX5.out.bF.drew, HX5.out.bM.drew, HX5.out.bS.drew, HX5.out.only.drew⟩
          clear d4' d5' d6' hTx f4 f5 f6 hMx X5
          refine region_val (by kernel_rfl) (fun k0 => ([some 66, some 67, some 68, some 69, some 70, some 71, some 72, some 73, some 74, some 75, some 76, some 77, some 78, some 79, some 3, none, none, none] : List (Option Nat)).getD k0 none) (fun k0 => ([(.int .u32 (rd : Int)), (.int .u32 (rc : Int)), (.int .u32 (rb : Int)), (.int .u32 (rb : Int)), (.int .u32 (x3 : Int)), (iv (i : Int)), (iv (e : Int)), (iv (i : Int)), (iv (m : Int)), (.pointer (some ⟨1, e * 4, none⟩)), (.pointer (some ⟨1, e * 4 + m, none⟩)), (iv (si : Int)), (.int .u32 (x5 : Int)), (.int .u32 (x4 : Int)), (.int .u32 (rd : Int)), (undef), (undef), (undef)] : List Value).getD k0 undef) (MixW w b t w1.heap.size g4 g5 g6 gF MM q p many rb rc rd x4) 102 18 rfl (by kernel_rfl) (by kernel_rfl) rfl (by kernel_rfl) (by kernel_rfl) HX6.out ?steps _ rfl ?done
          case steps =>
            refine ⟨?_, ?_, ?_, ?_, ?_, ?_, ?_, ?_, ?_, ?_, ?_, ?_, ?_, ?_, ?_, ?_, ?_, ?_, trivial⟩
            · intro L A' u hW hL0 hnd K' hK
              have r6 : A'.tmps[6]? = some (.pointer (some ⟨g6, 0, none⟩)) := (hW.out 6 (fun j hj => noOut j 6 hj (by kernel_rfl))).trans rfl
              have hns : L 15 = false := notYet hW.closed (j := 15) (by rfl) (k := 0) (by kernel_rfl) hL0
              have hc := hW.wi.b6.cell 0
              rw [hns, if_neg (by decide)] at hc
              have hc' : u.cell? ⟨g6, 0, none⟩ = some (.int .u32 (rd : Int)) := hc
              clear hc
              go_simp
              exact hK _ (hW.wi.same (by decide) (by decide) (by decide))
            · intro L A' u hW hL0 hnd K' hK
              have r5 : A'.tmps[5]? = some (.pointer (some ⟨g5, 0, none⟩)) := (hW.out 5 (fun j hj => noOut j 5 hj (by kernel_rfl))).trans rfl
              have hns : L 16 = false := notYet hW.closed (j := 16) (by rfl) (k := 1) (by kernel_rfl) hL0
              have hc := hW.wi.b5.cell 0
              rw [hns, if_neg (by decide)] at hc
              have hc' : u.cell? ⟨g5, 0, none⟩ = some (.int .u32 (rc : Int)) := hc
              clear hc
              go_simp
              exact hK _ (hW.wi.same (by decide) (by decide) (by decide))
            · intro L A' u hW hL0 hnd K' hK
              have r4 : A'.tmps[4]? = some (.pointer (some ⟨g4, 0, none⟩)) := (hW.out 4 (fun j hj => noOut j 4 hj (by kernel_rfl))).trans rfl
              have hns : L 17 = false := notYet hW.closed (j := 17) (by rfl) (k := 2) (by kernel_rfl) hL0
              have hc := hW.wi.b4.cell 0
              rw [hns, if_neg (by decide)] at hc
              have hc' : u.cell? ⟨g4, 0, none⟩ = some (.int .u32 (rb : Int)) := hc
              clear hc
              go_simp
              exact hK _ (hW.wi.same (by decide) (by decide) (by decide))
            · intro L A' u hW hL0 hnd K' hK
              have r4 : A'.tmps[4]? = some (.pointer (some ⟨g4, 0, none⟩)) := (hW.out 4 (fun j hj => noOut j 4 hj (by kernel_rfl))).trans rfl
              have hns : L 17 = false := notYet hW.closed (j := 17) (by rfl) (k := 3) (by kernel_rfl) hL0
              have hc := hW.wi.b4.cell 0
              rw [hns, if_neg (by decide)] at hc
              have hc' : u.cell? ⟨g4, 0, none⟩ = some (.int .u32 (rb : Int)) := hc
              clear hc
              go_simp
              exact hK _ (hW.wi.same (by decide) (by decide) (by decide))
            · intro L A' u hW hL0 hnd K' hK
              have r12 : A'.tmps[12]? = some (.int .u32 (((x2 : Int) + (mi : Int)) % 4294967296)) := (hW.out 12 (fun j hj => noOut j 12 hj (by kernel_rfl))).trans rfl
              rw [s3] at r12
              go_simp
              exact hK _ (hW.wi.same (by decide) (by decide) (by decide))
            · intro L A' u hW hL0 hnd K' hK
              have r8 : A'.tmps[8]? = some (iv (i : Int)) := (hW.out 8 (fun j hj => noOut j 8 hj (by kernel_rfl))).trans rfl
              go_simp
              exact hK _ (hW.wi.same (by decide) (by decide) (by decide))
            · intro L A' u hW hL0 hnd K' hK
              have r71 : A'.tmps[71]? = some (iv (i : Int)) := hW.val 5 71 (by decide) (hnd 5 (by kernel_rfl)) rfl
              go_simp
              exact hK _ (hW.wi.same (by decide) (by decide) (by decide))
            · intro L A' u hW hL0 hnd K' hK
              have r8 : A'.tmps[8]? = some (iv (i : Int)) := (hW.out 8 (fun j hj => noOut j 8 hj (by kernel_rfl))).trans rfl
              go_simp
              exact hK _ (hW.wi.same (by decide) (by decide) (by decide))
            · intro L A' u hW hL0 hnd K' hK
              have r73 : A'.tmps[73]? = some (iv (i : Int)) := hW.val 7 73 (by decide) (hnd 7 (by kernel_rfl)) rfl
              go_simp
              exact hK _ (hW.wi.same (by decide) (by decide) (by decide))
            · intro L A' u hW hL0 hnd K' hK
              have r72 : A'.tmps[72]? = some (iv (e : Int)) := hW.val 6 72 (by decide) (hnd 6 (by kernel_rfl)) rfl
              go_simp
              exact hK _ (hW.wi.same (by decide) (by decide) (by decide))
            · intro L A' u hW hL0 hnd K' hK
              have r75 : A'.tmps[75]? = some (.pointer (some ⟨1, e * 4, none⟩)) := hW.val 9 75 (by decide) (hnd 9 (by kernel_rfl)) rfl
              have r74 : A'.tmps[74]? = some (iv (m : Int)) := hW.val 8 74 (by decide) (hnd 8 (by kernel_rfl)) rfl
              go_simp
              exact hK _ (hW.wi.same (by decide) (by decide) (by decide))
            · intro L A' u hW hL0 hnd K' hK
              have r76 : A'.tmps[76]? = some (.pointer (some ⟨1, e * 4 + m, none⟩)) := hW.val 10 76 (by decide) (hnd 10 (by kernel_rfl)) rfl
              have hc' : u.cell? ⟨1, e * 4 + m, none⟩ = some (iv (si : Int)) := HT.out u hW.wi.only
              go_simp
              exact hK _ (hW.wi.same (by decide) (by decide) (by decide))
            · intro L A' u hW hL0 hnd K' hK
              have r70 : A'.tmps[70]? = some (.int .u32 (x3 : Int)) := hW.val 4 70 (by decide) (hnd 4 (by kernel_rfl)) rfl
              have r77 : A'.tmps[77]? = some (iv (si : Int)) := hW.val 11 77 (by decide) (hnd 11 (by kernel_rfl)) rfl
              have HCL := Lib.hid (rotl' (w := u) x3 si s4 hT32)
              rw [Hx5.out] at HCL
              go_simp
              refine (HCL.out).mono ?_
              rintro e' u' ⟨rfl, rfl⟩
              exact hK _ (hW.wi.same (by decide) (by decide) (by decide))
            · intro L A' u hW hL0 hnd K' hK
              have r69 : A'.tmps[69]? = some (.int .u32 (rb : Int)) := hW.val 3 69 (by decide) (hnd 3 (by kernel_rfl)) rfl
              have r78 : A'.tmps[78]? = some (.int .u32 (x5 : Int)) := hW.val 12 78 (by decide) (hnd 12 (by kernel_rfl)) rfl
              go_simp
              exact hK _ (hW.wi.same (by decide) (by decide) (by decide))
            · intro L A' u hW hL0 hnd K' hK
              have r66 : A'.tmps[66]? = some (.int .u32 (rd : Int)) := hW.val 0 66 (by decide) (hnd 0 (by kernel_rfl)) rfl
              go_simp
              exact hK _ (hW.wi.same (by decide) (by decide) (by decide))
            · intro L A' u hW hL0 hnd K' hK
              have r67 : A'.tmps[67]? = some (.int .u32 (rc : Int)) := hW.val 1 67 (by decide) (hnd 1 (by kernel_rfl)) rfl
              have r6 : A'.tmps[6]? = some (.pointer (some ⟨g6, 0, none⟩)) := (hW.out 6 (fun j hj => noOut j 6 hj (by kernel_rfl))).trans rfl
              have hc := hW.wi.b6.cell 0
              have hfz := hW.wi.b6.frozen 0
              rw [hL0, if_neg (by decide)] at hc
              have hc' : u.cell? ⟨g6, 0, none⟩ = some (.int .u32 (rd : Int)) := hc
              clear hc
              go_simp
              exact hK _ (hW.wi.st6 () n45 n46 n56 lF4 lF5 lF6 lM4 lM5 lM6 lS4 lS5 lS6 lw6)
            · intro L A' u hW hL0 hnd K' hK
              have r68 : A'.tmps[68]? = some (.int .u32 (rb : Int)) := hW.val 2 68 (by decide) (hnd 2 (by kernel_rfl)) rfl
              have r5 : A'.tmps[5]? = some (.pointer (some ⟨g5, 0, none⟩)) := (hW.out 5 (fun j hj => noOut j 5 hj (by kernel_rfl))).trans rfl
              have hc := hW.wi.b5.cell 0
              have hfz := hW.wi.b5.frozen 0
              rw [hL0, if_neg (by decide)] at hc
              have hc' : u.cell? ⟨g5, 0, none⟩ = some (.int .u32 (rc : Int)) := hc
              clear hc
              go_simp
              exact hK _ (hW.wi.st5 () n45 n46 n56 lF4 lF5 lF6 lM4 lM5 lM6 lS4 lS5 lS6 lw5)
            · intro L A' u hW hL0 hnd K' hK
              have r79 : A'.tmps[79]? = some (.int .u32 (x4 : Int)) := hW.val 13 79 (by decide) (hnd 13 (by kernel_rfl)) rfl
              have r4 : A'.tmps[4]? = some (.pointer (some ⟨g4, 0, none⟩)) := (hW.out 4 (fun j hj => noOut j 4 hj (by kernel_rfl))).trans rfl
              have hc := hW.wi.b4.cell 0
              have hfz := hW.wi.b4.frozen 0
              rw [hL0, if_neg (by decide)] at hc
              have hc' : u.cell? ⟨g4, 0, none⟩ = some (.int .u32 (rb : Int)) := hc
              clear hc
              go_simp
              exact hK _ (hW.wi.st4 () n45 n46 n56 lF4 lF5 lF6 lM4 lM5 lM6 lS4 lS5 lS6 lw4)
          case done =>
            intro L u hWI hall
            have a15 := hall 15 (by decide)
            have a16 := hall 16 (by decide)
            have a17 := hall 17 (by decide)
            obtain ⟨c4, c5, c6, cF, cM, cS, cO⟩ := hWI
            rw [a17, if_pos rfl] at c4
            rw [a16, if_pos rfl] at c5
            rw [a15, if_pos rfl] at c6
            have HE : Hid ((rnds (wds p) (i + 1) q).a = rd ∧ (rnds (wds p) (i + 1) q).b = x4 ∧ (rnds (wds p) (i + 1) q).c = rb ∧ (rnds (wds p) (i + 1) q).d = rc) := by
              refine Lib.hid ?_
              rw [HR.out]
              refine ⟨rfl, ?_, rfl, rfl⟩
              rw [← Hx4.out, ← Hx5.out, ← Hx3.out, ← Hsi.out]
              rfl
            have HXn : Hid (MixL w b t w1.heap.size g4 g5 g6 gF MM (wds p) q p many (i + 1) u) := by
              refine Lib.hid ⟨?_, ?_, ?_, cF, cM, cS, cO⟩
              · rw [HE.out.2.1]; exact c4
              · rw [HE.out.2.2.1]; exact c5
              · rw [HE.out.2.2.2]; exact c6
            clear HR HS1 HRn c4 c5 c6 cF cM cS HX6 HX5
            simp only [putV]
            go_wp2
            exact ⟨⟨i + 1, by omega, by go_num, by rw [HE.out.1], HXn.out⟩, by simp [intOf]; omega⟩
      · have hi64 : i = 64 := by omega
        obtain ⟨h4, h5, h6, _, _, hS, _⟩ := hX
        have d4 := h4.cell 0
        have d5 := h5.cell 0
        have d6 := h6.cell 0
        have HE : Hid (upd 4 q (rnds (wds p) i q) = mx (wds p) q) := by
          refine Lib.hid ?_
          exact mx_upd i _ _ hi64
        have HS := Lib.hid hS
        clear h4 h5 h6 hS
        generalize rnds (wds p) i q = r at *
        obtain ⟨ra, rb, rc, rd⟩ := r
        have d4' : wr.cell? ⟨g4, 0, none⟩ = some (.int .u32 (rb : Int)) := d4
        have d5' : wr.cell? ⟨g5, 0, none⟩ = some (.int .u32 (rc : Int)) := d5
        have d6' : wr.cell? ⟨g6, 0, none⟩ = some (.int .u32 (rd : Int)) := d6
        clear d4 d5 d6 hok
        have HO := Lib.hid ho
        clear ho
        have hi2 : decide (i < 64) = false := by simp; omega
        go_wp2
        go_loopw [86] (fun s86 wz => EndP w b t q ⟨ra, rb, rc, rd⟩ p many s86 wz) (fun s86 _ => 4 - (intOf s86).toNat)
        case atStart => exact ⟨0, by omega, rfl, HS.out, HO.out.nix⟩
        case round =>
          clear d4' d5' d6'
          obtain ⟨j, hj, rfl, hS, ho⟩ := hrel
          by_cases hlt : j < 4
          · obtain rfl | rfl | rfl | rfl : j = 0 ∨ j = 1 ∨ j = 2 ∨ j = 3 := by omega
            · have hc := hS.cell 0
              have hfz := hS.frozen 0
              have hc' : wr.cell? ⟨b, 0, none⟩ = some (.int .u32 (q.a : Int)) := hc
              have hs := ad_cast q.a ra
              have HS5 : Hid (∀ u, u = wr.setCell ⟨b, 0, none⟩ (wv (ad q.a ra)) → Box u b t (stc (upd 1 q ⟨ra, rb, rc, rd⟩) p many).toArray) := by
                refine Lib.hid ?_
                rintro u rfl
                have := hS.put 0 (wv (ad q.a ra))
                rw [List.setIfInBounds_toArray] at this
                exact this
              clear hc hS
              generalize ad q.a ra = z at *
              have hix : ∀ u, (Instr.index 52 (.agg #[.int .u32 (ra : Int), .int .u32 (rb : Int), .int .u32 (rc : Int), .int .u32 (rd : Int)]) (.int .i64 0)).run Tryd.prog u = .ok (.int .u32 (ra : Int)) u :=
                fun u => run_index_arr (i := 0) (cs := [.int .u32 (ra : Int), .int .u32 (rb : Int), .int .u32 (rc : Int), .int .u32 (rd : Int)]) Tryd.underlying52 Tryd.underlying47 rfl (by kernel_rfl) (by decide) rfl u
              go_wp2
              go_region
              go_wp2
              refine ⟨⟨1, by omega, by go_num, (HS5.out _ rfl).drew, (ho.setCell (p := ⟨b, 0, none⟩) (.inl rfl) _).drew⟩, by simp [intOf]⟩
            · have hc := hS.cell 1
              have hfz := hS.frozen 1
              have hc' : wr.cell? ⟨b, 1, none⟩ = some (.int .u32 (q.b : Int)) := hc
              have hs := ad_cast q.b rb
              have HS5 : Hid (∀ u, u = wr.setCell ⟨b, 1, none⟩ (wv (ad q.b rb)) → Box u b t (stc (upd 2 q ⟨ra, rb, rc, rd⟩) p many).toArray) := by
                refine Lib.hid ?_
                rintro u rfl
                have := hS.put 1 (wv (ad q.b rb))
                rw [List.setIfInBounds_toArray] at this
                exact this
              clear hc hS
              generalize ad q.b rb = z at *
              have hix : ∀ u, (Instr.index 52 (.agg #[.int .u32 (ra : Int), .int .u32 (rb : Int), .int .u32 (rc : Int), .int .u32 (rd : Int)]) (.int .i64 1)).run Tryd.prog u = .ok (.int .u32 (rb : Int)) u :=
                fun u => run_index_arr (i := 1) (cs := [.int .u32 (ra : Int), .int .u32 (rb : Int), .int .u32 (rc : Int), .int .u32 (rd : Int)]) Tryd.underlying52 Tryd.underlying47 rfl (by kernel_rfl) (by decide) rfl u
              go_wp2
              go_region
              go_wp2
              refine ⟨⟨2, by omega, by go_num, (HS5.out _ rfl).drew, (ho.setCell (p := ⟨b, 1, none⟩) (.inl rfl) _).drew⟩, by simp [intOf]⟩
            · have hc := hS.cell 2
              have hfz := hS.frozen 2
              have hc' : wr.cell? ⟨b, 2, none⟩ = some (.int .u32 (q.c : Int)) := hc
              have hs := ad_cast q.c rc
              have HS5 : Hid (∀ u, u = wr.setCell ⟨b, 2, none⟩ (wv (ad q.c rc)) → Box u b t (stc (upd 3 q ⟨ra, rb, rc, rd⟩) p many).toArray) := by
                refine Lib.hid ?_
                rintro u rfl
                have := hS.put 2 (wv (ad q.c rc))
                rw [List.setIfInBounds_toArray] at this
                exact this
              clear hc hS
              generalize ad q.c rc = z at *
              have hix : ∀ u, (Instr.index 52 (.agg #[.int .u32 (ra : Int), .int .u32 (rb : Int), .int .u32 (rc : Int), .int .u32 (rd : Int)]) (.int .i64 2)).run Tryd.prog u = .ok (.int .u32 (rc : Int)) u :=
                fun u => run_index_arr (i := 2) (cs := [.int .u32 (ra : Int), .int .u32 (rb : Int), .int .u32 (rc : Int), .int .u32 (rd : Int)]) Tryd.underlying52 Tryd.underlying47 rfl (by kernel_rfl) (by decide) rfl u
              go_wp2
              go_region
              go_wp2
              refine ⟨⟨3, by omega, by go_num, (HS5.out _ rfl).drew, (ho.setCell (p := ⟨b, 2, none⟩) (.inl rfl) _).drew⟩, by simp [intOf]⟩
            · have hc := hS.cell 3
              have hfz := hS.frozen 3
              have hc' : wr.cell? ⟨b, 3, none⟩ = some (.int .u32 (q.d : Int)) := hc
              have hs := ad_cast q.d rd
              have HS5 : Hid (∀ u, u = wr.setCell ⟨b, 3, none⟩ (wv (ad q.d rd)) → Box u b t (stc (upd 4 q ⟨ra, rb, rc, rd⟩) p many).toArray) := by
                refine Lib.hid ?_
                rintro u rfl
                have := hS.put 3 (wv (ad q.d rd))
                rw [List.setIfInBounds_toArray] at this
                exact this
              clear hc hS
              generalize ad q.d rd = z at *
              have hix : ∀ u, (Instr.index 52 (.agg #[.int .u32 (ra : Int), .int .u32 (rb : Int), .int .u32 (rc : Int), .int .u32 (rd : Int)]) (.int .i64 3)).run Tryd.prog u = .ok (.int .u32 (rd : Int)) u :=
                fun u => run_index_arr (i := 3) (cs := [.int .u32 (ra : Int), .int .u32 (rb : Int), .int .u32 (rc : Int), .int .u32 (rd : Int)]) Tryd.underlying52 Tryd.underlying47 rfl (by kernel_rfl) (by decide) rfl u
              go_wp2
              go_region
              go_wp2
              refine ⟨⟨4, by omega, by go_num, (HS5.out _ rfl).drew, (ho.setCell (p := ⟨b, 3, none⟩) (.inl rfl) _).drew⟩, by simp [intOf]⟩
          · obtain rfl : j = 4 := by omega
            go_wp2
            go_end0
            rw [HE.out] at hS
            exact ⟨rfl, hS, ho⟩
end Go.Proofs.YtekmebbioalpdaaDoor
