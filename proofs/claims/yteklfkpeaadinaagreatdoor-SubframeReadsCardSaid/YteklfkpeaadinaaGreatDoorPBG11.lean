/-
  The document's answer: Bits of a block.
-/
import Derived.Test.YteklfkpeaadinaaGreatDoorPBG10
import Derived.Deep.RegionHeld3
namespace Go.Proofs.YteklfkpeaadinaaGreatDoor
open Go.RowKit Go.Joins

/-- a row of bits, and another one behind it -/
theorem wpList_append_row {w W0 : World} {ops : Array Oper} {rest : List Oper} {o : Oper} {a : Act} {Q : Exit → Act → World → Prop} (hgd : o.guard = none) (s x : Operand)
    (ho : o.op = .call { callee := .builtin .append, args := #[s, x], argTypes := #[22, 22] })
    (v : Value) (l : List Nat) (hs : a.eval s = v) (hown : Bitrow w W0.heap.size v l) (hO : Only Nix W0 w)
    (base : Nat) (vx : Value) (M : List Nat) (hx : a.eval x = vx) (hrow : Bitrow w base vx M) (h63 : l.length + M.length ≤ 1000000000)
    (h : ∀ v' w', Bitrow w' W0.heap.size v' (l ++ M) → Only Nix W0 w' → wpList Tryz.prog ops Q rest (a.put o.dst v') w') :
    wpList Tryz.prog ops Q (o :: rest) a w := by
  obtain ⟨i0, hi, hz0, hz1, hz2⟩ := info_parts Tryz.info_int
  rcases hrow.2 with ⟨rfl, hn⟩ | ⟨g, cap, cur, rfl, hg⟩
  · have hM : M = [] := List.eq_nil_of_length_eq_zero hn
    subst hM
    refine wpList_append_own_none hgd s x 22 ho W0.heap.size 3 i0 1 Tryz.underlying22 hi v l.length (bv l) hs hown hx ?_
    rw [List.append_nil] at h
    exact h v w hown hO
  · refine wpList_append_own _ hgd s x 22 ho W0.heap.size 3 i0 (.int .i64 0) 1 8 Tryz.underlying22 hi hz0 hz1 hz2 rfl (by decide) v l.length (bv l) hs hown ⟨g, 0, none⟩ M.length cap (bv M) hx (by rw [bv_len, Nat.mul_one]) (World.ownsRow.cells hrow (g := g) rfl) ?_ (by unfold maxLen; omega) (by omega) hO.size ?_
    · intro u hu
      obtain ⟨y, _, rfl⟩ := List.mem_map.1 hu
      rfl
    · intro v' w' h1 h2 _
      refine h v' w' ?_ (hO.grown h2 fun k e => .inr (hown.lt k e).1)
      unfold Bitrow
      rw [List.length_append, bv_append]
      exact h1
theorem qb_len1 {a k f i q : Nat} (h : a ≤ 6 + 10 * (k + 1) + 65600 * (q + 1)) (hq : f + i = q) : a ≤ 6 + 10 * (k + 1) + 65600 * (f + (i + 1)) := by
  subst hq
  rw [← Nat.add_assoc f i 1]
  exact h
theorem qb_len2 {a k q : Nat} (h : a ≤ 6 + 10 * (k + 1) + 65600 * (q + 1)) (hk : k ≤ 300) (hq : q ≤ 200) : a ≤ 1000000000 :=
  Nat.le_trans h (Nat.le_trans (Nat.add_le_add (Nat.add_le_add_left (Nat.mul_le_mul_left 10 (Nat.add_le_add_right hk 1)) 6) (Nat.mul_le_mul_left 65600 (Nat.add_le_add_right hq 1))) (by decide))
theorem qb_len3 {a b k f i q : Nat} (h : a ≤ 6 + 10 * (k + 1) + 65600 * (f + i)) (hq : f + i = q) (hb : b ≤ 65600) : a + b ≤ 6 + 10 * (k + 1) + 65600 * (q + 1) := by omega
/-- the bits as far as part k, and as far as residual i of it -/
def lsK (S s m o : Nat) (ps bs l : List Int) (k : Nat) : List Nat := (bitsN 2 m ++ bitsN 4 o) ++ (List.range k).flatMap fun k => partB m (ps.getD k 0) (bs.getD k 0) (pt S s l k)
def lsI (S s m o : Nat) (ps bs l : List Int) (k i : Nat) : List Nat := lsK S s m o ps bs l k ++ (hdB m (ps.getD k 0) (bs.getD k 0) ++ ((pt S s l k).take i).flatMap (resB (ps.getD k 0) (bs.getD k 0)))
theorem lsI_zero (S s m o : Nat) (ps bs l : List Int) (k : Nat) : lsI S s m o ps bs l k 0 = lsK S s m o ps bs l k ++ hdB m (ps.getD k 0) (bs.getD k 0) := by simp [lsI]
theorem lsI_succ (S s m o : Nat) (ps bs l : List Int) (k i : Nat) {x : Int} (h : (pt S s l k)[i]? = some x) : lsI S s m o ps bs l k (i + 1) = lsI S s m o ps bs l k i ++ resB (ps.getD k 0) (bs.getD k 0) x := by
  unfold lsI
  rw [List.take_add_one, h, Option.toList_some, List.flatMap_append, List.flatMap_singleton]
  simp only [List.append_assoc]
theorem lsI_all (S s m o : Nat) (ps bs l : List Int) (k i : Nat) (h : (pt S s l k).length ≤ i) : lsI S s m o ps bs l k i = lsK S s m o ps bs l (k + 1) := by
  unfold lsI lsK
  rw [List.take_of_length_le h, List.range_succ, List.flatMap_append, List.flatMap_singleton, List.append_assoc]
  rfl
theorem hdB_len (m : Nat) (p wd : Int) (hm : m ≤ 1) : (hdB m p wd).length ≤ 10 := by
  unfold hdB
  split
  · rw [List.length_append, bitsN_len, bitsN_len]; omega
  · rw [bitsN_len]; omega
structure BkI (w1 : World) (S s m o : Nat) (ps bs l : List Int) (k : Nat) (out : Value) (u : World) : Prop where
  row : Bitrow u w1.heap.size out (lsK S s m o ps bs l k)
  len : (lsK S s m o ps bs l k).length ≤ 6 + 10 * k + 65600 * frm S s k
  only : Only Nix w1 u
  ok : ∀ j, j < k → ∀ x ∈ pt S s l j, okR (ps.getD j 0) (bs.getD j 0) x
theorem BkI.nix {w1 u u' : World} {S s m o : Nat} {ps bs l : List Int} {k : Nat} {out : Value} (h : BkI w1 S s m o ps bs l k out u) (ho : Only Nix u u') : BkI w1 S s m o ps bs l k out u' :=
  ⟨owns_only h.row ho (fun _ _ e => e), h.len, h.only.trans ho, h.ok⟩
def BkO (w1 : World) (S s m o P : Nat) (ps bs l : List Int) (s10 s12 s13 : Value) (u : World) : Prop :=
  ∃ k : Nat, k ≤ P ∧ s13 = iv k ∧ s12 = iv (frm S s k : Nat) ∧ BkI w1 S s m o ps bs l k s10 u
structure BkJ (w1 : World) (S s m o : Nat) (ps bs l : List Int) (k i : Nat) (out : Value) (u : World) : Prop where
  row : Bitrow u w1.heap.size out (lsI S s m o ps bs l k i)
  len : (lsI S s m o ps bs l k i).length ≤ 6 + 10 * (k + 1) + 65600 * (frm S s k + i)
  only : Only Nix w1 u
  ok : ∀ x ∈ (pt S s l k).take i, okR (ps.getD k 0) (bs.getD k 0) x
def BkN (w1 : World) (S s m o : Nat) (ps bs l : List Int) (k : Nat) (s10 s12 : Value) (u : World) : Prop :=
  ∃ i : Nat, i ≤ (pt S s l k).length ∧ s12 = iv (frm S s k + i : Nat) ∧ BkJ w1 S s m o ps bs l k i s10 u
set_option maxRecDepth 100000 in
set_option maxHeartbeats 2000000 in
theorem bitsRef5_err {w : World} (m o s E : Int) (A Ap Ab : Option Addr) (n np nb c cp cb : Nat) (ps bs l : List Int) (hs0 : -9223372036854775808 ≤ s) (hs1 : s ≤ 4611686018427387904)
    (hl : ISrc w (.slice A n c) l) (hp : ISrc w (.slice Ap np cp) ps) (hb : ISrc w (.slice Ab nb cb) bs) (hE : ckC m o ps bs ((l.length : Int) + s) s = E) (hE0 : E ≠ 0) :
    Calls Tryz.prog 52 #[planV m o (.slice Ap np cp) (.slice Ab nb cb), iv s, .slice A n c] w fun e w' => e = .returned (.tuple #[.slice none 0 0, iv E]) ∧ Only Nix w w' := by
  obtain rfl := hl.len
  have hsm := hl.small
  have HO := Lib.hid ((Only.refl Nix w).alloc (.cells #[iv m, iv o, .slice Ap np cp, .slice Ab nb cb] 54))
  have HC : ∀ u, Only Nix w u → Hid (Calls Tryz.prog 51 #[planV m o (.slice Ap np cp) (.slice Ab nb cb), iv ((l.length : Int) + s), iv s] u fun e w' => e = .returned (iv E) ∧ Only Nix u w') := fun u hu => by
    have := checkRef_any (w := u) m o ((l.length : Int) + s) s Ap Ab np nb cp cb ps bs (hp.nix hu) (hb.nix hu)
    rw [hE] at this
    exact Lib.hid this
  have hd : (E != (0 : Int)) = true := by simpa using hE0
  have HBx := Lib.hid (Box.new w 54 #[iv m, iv o, .slice Ap np cp, .slice Ab nb cb])
  clear hp hb hE hl hE0
  generalize l.length = n at *
  go_enter Tryz.func52, Tryz.ntmps52
  go_wp2_with fail
  refine ((HC _ HO.out).out).mono ?_
  rintro e w2 ⟨rfl, ho2⟩
  have HO2 := Lib.hid (HO.out.trans ho2)
  clear ho2
  go_wp2
  go_ret2
  exact ⟨rfl, HO2.out⟩
set_option maxRecDepth 100000 in
set_option maxHeartbeats 4000000 in
theorem bitsRef5_ok {w : World} (m o s P S : Nat) (A Ap Ab : Option Addr) (n np nb c cp cb : Nat) (ps bs l : List Int)
    (hl : ISrc w (.slice A n c) l) (hp : ISrc w (.slice Ap np cp) ps) (hb : ISrc w (.slice Ab nb cb) bs) (hE : ckC m o ps bs ((l.length : Int) + (s : Int)) s = 0)
    (hm : m ≤ 1) (ho : o ≤ 15) (hs : s ≤ 32) (hP : 2 ^ o = P) (hn : P * S = l.length + s) (hS : s < S) (hn2 : l.length ≤ 200) (hp3 : P ≤ 300) (hpl : ps.length = P) (hbl : bs.length = P) (hall : allP m ps bs) :
    Calls Tryz.prog 52 #[planV m o (.slice Ap np cp) (.slice Ab nb cb), iv s, .slice A n c] w fun e w' => ∃ v E, e = .returned (.tuple #[v, iv E]) ∧ Only Nix w w' ∧
      ((E = 10 ∧ v = .slice none 0 0 ∧ ¬ ∀ k, k < P → ∀ x ∈ pt S s l k, okR (ps.getD k 0) (bs.getD k 0) x) ∨
       (E = 0 ∧ (∀ k, k < P → ∀ x ∈ pt S s l k, okR (ps.getD k 0) (bs.getD k 0) x) ∧ Bitrow w' w.heap.size v (blockB S s P m o ps bs l) ∧ (blockB S s P m o ps bs l).length ≤ 6 + 10 * P + 65600 * frm S s P)) := by
  obtain rfl := hl.len
  obtain rfl := hp.len
  obtain rfl := hb.len
  obtain ⟨i0, hi, hz0, hz1, hz2⟩ := info_parts Tryz.info_int
  obtain ⟨w1, hw1⟩ : ∃ w1, w.alloc (.cells #[iv m, iv o, .slice Ap ps.length cp, .slice Ab bs.length cb] 54) = w1 := ⟨_, rfl⟩
  have HO := Lib.hid ((Only.refl Nix w).alloc (.cells #[iv m, iv o, .slice Ap ps.length cp, .slice Ab bs.length cb] 54))
  have HBx := Lib.hid (Box.new w 54 #[iv m, iv o, .slice Ap ps.length cp, .slice Ab bs.length cb])
  rw [hw1] at HO HBx
  have HC : Hid (Calls Tryz.prog 51 #[planV m o (.slice Ap ps.length cp) (.slice Ab bs.length cb), iv ((l.length : Int) + s), iv s] w1 fun e w' => e = .returned (iv 0) ∧ Only Nix w1 w') := by
    have := checkRef_any (w := w1) m o ((l.length : Int) + s) s Ap Ab ps.length bs.length cp cb ps bs (hp.nix HO.out) (hb.nix HO.out)
    rw [hE] at this
    exact Lib.hid this
  have hm2 : ∀ u base v L, Bitrow u base v L → base ≤ u.heap.size → L.length ≤ 100000000 → ∀ a x : Nat, a ≤ 48 → x < 2 ^ a → Hid (Calls Tryz.prog 48 #[v, iv a, iv x, .bool false] u fun e w' => ∃ v', e = .returned (.tuple #[v', iv 0]) ∧ RowTo u base v v' (L ++ bitsN a x) w') := fun u base v L hr hb hL a x ha hx => Lib.hid (by
    refine (putRefW_any false hr hb hL (a : Int) (x : Int)).mono ?_
    rintro e w2 ⟨v', rfl, hrow⟩
    have hx2 : (x : Int) < (2 : Int) ^ a := by rw [pow_cast]; omega
    obtain ⟨e1, e2⟩ := ref_ok false L a (x : Int) ha ((refNum_put a (x : Int)).2 ⟨by omega, hx2⟩)
    rw [e1]
    rw [e2, Int.emod_eq_of_lt (by omega) hx2, Int.toNat_natCast] at hrow
    exact ⟨v', rfl, hrow⟩)
  have HL := Lib.hid hl
  have HP := Lib.hid hp
  have HB := Lib.hid hb
  have HG := Lib.hid (And.intro hP (And.intro hn (And.intro hS (And.intro hpl (And.intro hbl hall)))))
  have d0 := HBx.out.cell 0
  have d1 := HBx.out.cell 1
  have d2 := HBx.out.cell 2
  have d3 := HBx.out.cell 3
  simp only [List.getElem?_toArray, List.getElem?_cons_zero, List.getElem?_cons_succ] at d0 d1 d2 d3
  clear hp hb hl hE hP hn hS hall
  generalize hNl : l.length = N at *
  generalize hNp : ps.length = Np at *
  generalize hNb : bs.length = Nb at *
  have HN := Lib.hid (And.intro hNl (And.intro hNp hNb))
  clear hNl hNp hNb hpl hbl
  have hNpP : Np = P := HG.out.2.2.2.1
  subst hNpP
  have hNbP : Np = Nb := HG.out.2.2.2.2.1.symm
  subst hNbP
  go_enter Tryz.func52, Tryz.ntmps52
  go_wp2_with fail
  refine (HC.out).mono ?_
  rintro e w2 ⟨rfl, ho2⟩
  have k0 := cell_keep ho2 d0
  have k1 := cell_keep ho2 d1
  have HO2 := Lib.hid ho2
  clear ho2
  go_wp2_with fail
  refine ((hm2 w2 w1.heap.size (.slice none 0 0) [] (World.ownsRow_nil _ _ _ _) HO2.out.size (by simp) 2 m (by omega) (by omega)).out).mono ?_
  rintro e w3 ⟨v3, rfl, hr3⟩
  have ho3 : Only Nix w1 w3 := HO2.out.then hr3.2.1 fun i e => by unfold RF at e; simp [Value.ownBlock] at e
  have hrow3 := hr3.1
  rw [List.nil_append] at hrow3
  generalize hT2 : bitsN 2 m = T2 at hrow3
  have HT2 := Lib.hid hT2
  have HR3 := Lib.hid hrow3
  have HO3 := Lib.hid ho3
  obtain ⟨A3, c3, hv3⟩ := owns_slice hrow3
  subst hv3
  have k0' := cell_keep ho3 d0
  have k1' := cell_keep ho3 d1
  clear hr3 ho3 hrow3 k0 k1 hT2
  go_wp2_with fail
  refine ((hm2 w3 w1.heap.size _ T2 HR3.out HO3.out.size (by rw [← HT2.out, bitsN_len]; omega) 4 o (by omega) (by omega)).out).mono ?_
  rintro e w4 ⟨v4, rfl, hr4⟩
  obtain ⟨hrow4, ho4⟩ := hr4.then HR3.out HO3.out
  generalize hT4 : T2 ++ bitsN 4 o = T4 at hrow4
  have HT4 : Hid (T4 = bitsN 2 m ++ bitsN 4 o) := Lib.hid (by rw [← hT4, HT2.out])
  have HR4 := Lib.hid hrow4
  have HO4 := Lib.hid ho4
  obtain ⟨A4, c4, hv4⟩ := owns_slice hrow4
  subst hv4
  clear hr4 ho4 hrow4 k0' k1' hT4
  go_wp2
  go_loopw [10, 12, 13] (fun s10 s12 s13 u => BkO w1 S s m o Np ps bs l s10 s12 s13 u) (fun _ _ s13 _ => Np - (intOf s13).toNat)
  case atStart =>
    have e0 : T4 = lsK S s m o ps bs l 0 := by rw [HT4.out]; simp [lsK]
    refine ⟨0, by omega, rfl, by simp [frm_zero], ⟨by have h9 := HR4.out; rw [e0] at h9 ⊢; exact h9, ?_, HO4.out, fun j hj => absurd hj (by omega)⟩⟩
    rw [← e0, HT4.out, List.length_append, bitsN_len, bitsN_len]
    omega
  case round =>
    obtain ⟨k, hk, rfl, rfl, hI⟩ := hrel
    clear HR4 HO4 HT4 HR3 HO3 HT2 HC
    have ho5 := hI.only
    have k0 := cell_keep ho5 d0
    have k2 := cell_keep ho5 d2
    have k3 := cell_keep ho5 d3
    obtain ⟨A5, c5, hv5⟩ := owns_slice hI.row
    subst hv5
    have HI := Lib.hid hI
    have HO5 := Lib.hid ho5
    clear hI ho5
    by_cases hlt : k < Np
    · have hlt2 : (k : Int) < (Np : Int) := by omega
      have hlp : k < ps.length := by rw [HN.out.2.1]; exact hlt
      have hlb : k < bs.length := by rw [HN.out.2.2]; exact hlt
      obtain ⟨adp, rfl, hpk⟩ := HP.out.at_ hlp
      obtain ⟨adb, rfl, hbk⟩ := HB.out.at_ hlb
      have hpk2 := cell_keep (HO.out.trans HO5.out) hpk
      have hbk2 := cell_keep (HO.out.trans HO5.out) hbk
      have hisP : isP m ps[k] bs[k] := HG.out.2.2.2.2.2 k hlp hlb
      have Hget : Hid (ps.getD k 0 = ps[k] ∧ bs.getD k 0 = bs[k]) := Lib.hid ⟨by simp [List.getD_eq_getElem?_getD, List.getElem?_eq_getElem hlp], by simp [List.getD_eq_getElem?_getD, List.getElem?_eq_getElem hlb]⟩
      have hfr : frm S s k ≤ 200 := by
        have := frm_le S s k Np l.length hk (by rw [HN.out.1]; exact HG.out.2.1)
        rw [HN.out.1] at this
        omega
      have hLl := HI.out.len
      have hrow := HI.out.row
      generalize hLe : lsK S s m o ps bs l k = L at hrow hLl ⊢
      have HLe := Lib.hid hLe
      have HR := Lib.hid hrow
      have HLl : Hid (L.length ≤ 100000000) := Lib.hid (by omega)
      clear hLe hrow hLl
      generalize ps[k] = pk at hpk hpk2 hisP Hget
      generalize bs[k] = bk at hbk hbk2 hisP Hget
      have HisP := Lib.hid hisP
      have hsz5 := HO5.out.size
      have fin : Hid (∀ u v, Bitrow u w1.heap.size v (L ++ hdB m pk bk) → Only Nix w1 u → BkJ w1 S s m o ps bs l k 0 v u) := Lib.hid (fun u v hr hou => by
        have e0 := lsI_zero S s m o ps bs l k
        rw [HLe.out, Hget.out.1, Hget.out.2] at e0
        refine ⟨by rw [e0]; exact hr, ?_, hou, fun x hx => by simp at hx⟩
        have h1 := HI.out.len
        have h2 := hdB_len m pk bk hm
        rw [HLe.out] at h1
        rw [e0, List.length_append]
        omega)
      rcases hisP with ⟨hpm, b1, b2⟩ | ⟨p1, p2, rfl⟩
      · obtain ⟨wd, rfl⟩ := Int.eq_ofNat_of_zero_le b1
        have hw4 : wrap64 (wrap64 ((2 : Int) ^ (4 + m)) - 1) = ((15 + 16 * m : Nat) : Int) := by
          rw [w64_mask (4 + m) (by omega)]
          have : m = 0 ∨ m = 1 := by omega
          rcases this with rfl | rfl <;> rfl
        have hx4 : 15 + 16 * m < 2 ^ (4 + m) := by
          have : m = 0 ∨ m = 1 := by omega
          rcases this with rfl | rfl <;> decide
        have c4 : (4 : Int) + (m : Int) = ((4 + m : Nat) : Int) := by omega
        have HQ1 := hm2 wr w1.heap.size _ L HR.out hsz5 HLl.out (4 + m) (15 + 16 * m) (by omega) hx4
        rw [← hw4, ← c4] at HQ1
        have hneg : decide (pk < 0) = true := by rw [hpm]; decide
        have Hpm := Lib.hid hpm
        clear hpm
        clear hw4 c4
        go_wp2_with fail
        refine (HQ1.out).mono ?_
        rintro e w5 ⟨v5, rfl, hr5⟩
        obtain ⟨hrow5, ho6⟩ := hr5.then HR.out HO5.out
        generalize hL5 : L ++ bitsN (4 + m) (15 + 16 * m) = L5 at hrow5
        have HL5 := Lib.hid hL5
        have hL5l : L5.length ≤ 100000000 := by
          have h1 := HI.out.len
          rw [HLe.out] at h1
          rw [← hL5, List.length_append, bitsN_len]
          omega
        have HL5l := Lib.hid hL5l
        have HR5 := Lib.hid hrow5
        have HO6 := Lib.hid ho6
        have hbk5 := cell_keep (HO.out.trans ho6) hbk
        have k35 := cell_keep ho6 d3
        obtain ⟨A6, c6, hv6⟩ := owns_slice hrow5
        subst hv6
        have HQ2 := hm2 w5 w1.heap.size _ L5 hrow5 ho6.size hL5l 5 wd (by omega) (by omega)
        clear hL5 hL5l hrow5 ho6 hr5 HQ1
        go_wp2_with fail
        refine (HQ2.out).mono ?_
        rintro e w6 ⟨v6, rfl, hr6⟩
        obtain ⟨hrow6, ho7⟩ := hr6.then HR5.out HO6.out
        have e6 : L5 ++ bitsN 5 wd = L ++ hdB m pk (wd : Int) := by
          rw [← HL5.out]
          unfold hdB
          rw [if_pos Hpm.out, Int.toNat_natCast, List.append_assoc]
        rw [e6] at hrow6
        have FJ := Lib.hid (fin.out w6 v6 hrow6 ho7)
        have HO7 := Lib.hid ho7
        clear e6
        generalize L ++ hdB m pk (wd : Int) = LH at hrow6
        obtain ⟨A7, c7, hv7⟩ := owns_slice hrow6
        subst hv7
        clear hrow6 ho7 hr6 HQ2 hbk5 k35
        go_wp2
        go_loopw [10, 12] (fun s10 s12 u => BkN w1 S s m o ps bs l k s10 s12 u) (fun _ s12 _ => 300 - (intOf s12).toNat)
        case atStart => exact ⟨0, Nat.zero_le _, by simp, FJ.out⟩
        case round =>
          obtain ⟨i, hi2, rfl, hJ⟩ := hrel
          have ho8 := hJ.only
          have j0 := cell_keep ho8 d0
          have j1 := cell_keep ho8 d1
          have j2 := cell_keep ho8 d2
          have j3 := cell_keep ho8 d3
          obtain ⟨A8, c8, hv8⟩ := owns_slice hJ.row
          subst hv8
          have hrow8 := hJ.row
          generalize hL9 : lsI S s m o ps bs l k i = L9 at hrow8 ⊢
          have HL9 := Lib.hid hL9
          have HR8 := Lib.hid hrow8
          have HJ := Lib.hid hJ
          have HO8 := Lib.hid ho8
          have hsz8 := ho8.size
          clear hJ ho8 FJ hrow8
          clear hL9
          have hfs := frm_le S s (k + 1) Np l.length (by omega) (by rw [HN.out.1]; exact HG.out.2.1)
          rw [HN.out.1] at hfs
          have hpl9 := pt_len S s Np l k HG.out.2.2.1 (by omega) (by rw [HN.out.1]; exact HG.out.2.1)
          have hst9 := (frm_step S s k HG.out.2.2.1).1
          have HBN : Hid ((N + s) / Np = S) := Lib.hid (by
            rw [← HG.out.2.1]
            exact Nat.mul_div_cancel_left _ (by omega))
          by_cases hlen : i < (pt S s l k).length
          · have hqN : frm S s k + i < N := by omega
            have hq9 : frm S s k + i < frm S s (k + 1) := by omega
            have hpo := part_of S s k (frm S s k + i) HG.out.2.2.1 (by omega) hq9
            have hql : frm S s k + i < l.length := by rw [HN.out.1]; exact hqN
            have hxe : (pt S s l k)[i]? = some (l[frm S s k + i]) := by rw [List.getElem?_eq_getElem hlen]; simp [pt]
            generalize hq : frm S s k + i = q at *
            have HQ := Lib.hid hq
            have Hlen := Lib.hid hlen
            obtain ⟨adl, rfl, hxl⟩ := HL.out.at_ hql
            generalize l[q] = x at hxl hxe
            have HX := Lib.hid hxe
            have hS0 : 0 < S := Nat.lt_of_le_of_lt (Nat.zero_le _) HG.out.2.2.1
            have hxl2 := cell_keep (HO.out.trans HO8.out) hxl
            have hpk9 := cell_keep (HO.out.trans HO8.out) hpk
            have hbk9 := cell_keep (HO.out.trans HO8.out) hbk
            have HPT := Lib.hid (partRef_any wr m o (N + s) s q (.slice (some adp) Np cp) (.slice (some adb) Np cb) Np S ho HG.out.1 HBN.out hS0 (by omega) hs (by omega))
            rw [hpo, Int.natCast_add] at HPT
            have hone : ∀ u, Hid (Calls Tryz.prog 87 #[iv x, iv pk, iv (wd : Int)] u (OneR u pk (wd : Int) x)) := fun u => Lib.hid (oneRef_any u x pk (wd : Int) (by left; exact ⟨Hpm.out, b1, b2⟩))
            have hqd : decide ((q : Int) < (N : Int)) = true := by simp; omega
            clear hq hxe hpo hq9 hfs hpl9 hst9 hlen hql
            go_wp2_with fail
            refine (HPT.out).mono ?_
            rintro e w9 ⟨rfl, ho9⟩
            have hO9 := HO8.out.trans ho9
            have q2 := cell_keep ho9 j2
            have q3 := cell_keep ho9 j3
            have hxl3 := cell_keep ho9 hxl2
            have hpk3 := cell_keep ho9 hpk9
            have hbk3 := cell_keep ho9 hbk9
            have HO9 := Lib.hid hO9
            have HW9 := Lib.hid ho9
            clear ho9 hO9 HPT j0 j1 j2 j3 hxl2 hpk9 hbk9 k0 k2 k3
            have HC9 : Hid (∀ u, Only Nix w9 u → (Only Nix w9 u ∧ u.cell? ⟨w.heap.size, 2, none⟩ = some (.slice (some adp) Np cp) ∧ u.cell? ⟨w.heap.size, 3, none⟩ = some (.slice (some adb) Np cb) ∧ u.cell? (adl.add q) = some (iv x) ∧ u.cell? (adp.add k) = some (iv pk) ∧ u.cell? (adb.add k) = some (iv (wd : Int)))) := Lib.hid (fun u o => ⟨o, cell_keep o q2, cell_keep o q3, cell_keep o hxl3, cell_keep o hpk3, cell_keep o hbk3⟩)
            have hone9 : ∀ u, (Only Nix w9 u ∧ u.cell? ⟨w.heap.size, 2, none⟩ = some (.slice (some adp) Np cp) ∧ u.cell? ⟨w.heap.size, 3, none⟩ = some (.slice (some adb) Np cb) ∧ u.cell? (adl.add q) = some (iv x) ∧ u.cell? (adp.add k) = some (iv pk) ∧ u.cell? (adb.add k) = some (iv (wd : Int))) → Calls Tryz.prog 87 #[iv x, iv pk, iv (wd : Int)] u (fun e w' => ∃ v r, e = .returned (.tuple #[v, .bool r]) ∧ (Only Nix w9 w' ∧ w'.cell? ⟨w.heap.size, 2, none⟩ = some (.slice (some adp) Np cp) ∧ w'.cell? ⟨w.heap.size, 3, none⟩ = some (.slice (some adb) Np cb) ∧ w'.cell? (adl.add q) = some (iv x) ∧ w'.cell? (adp.add k) = some (iv pk) ∧ w'.cell? (adb.add k) = some (iv (wd : Int))) ∧ (r = true → okR pk (wd : Int) x ∧ Bitrow w' w9.heap.size v (resB pk (wd : Int) x)) ∧ (r = false → ¬ okR pk (wd : Int) x)) := fun u hu =>
              ((hone u).out).mono fun e w' h => by
                obtain ⟨v, r, he, ho, h1, h2⟩ := h
                exact ⟨v, r, he, HC9.out _ (hu.1.trans ho), fun g => ⟨(h1 g).1, ownsRow_le (h1 g).2 hu.1.size⟩, h2⟩
            go_wp2_with fail
            go_region_held3 (fun u => (Only Nix w9 u ∧ u.cell? ⟨w.heap.size, 2, none⟩ = some (.slice (some adp) Np cp) ∧ u.cell? ⟨w.heap.size, 3, none⟩ = some (.slice (some adb) Np cb) ∧ u.cell? (adl.add q) = some (iv x) ∧ u.cell? (adp.add k) = some (iv pk) ∧ u.cell? (adb.add k) = some (iv (wd : Int)))) (first | assumption | (refine HC9.out _ ?_; first | exact Only.refl _ _ | exact (Only.refl _ _).drew | assumption)) (first
              | (go_at_call 87; (with_reducible refine (hone9 _ (by assumption)).mono ?_); rintro e w10 ⟨v10, r10, rfl, hs10, hy10, hn10⟩))
            have ho10 := hs10.1
            have hO10 : Only Nix w1 w10 := HO9.out.trans ho10
            have HO10 := Lib.hid hO10
            have HR10 : Hid (Bitrow w10 w1.heap.size (.slice A8 L9.length c8) L9) := Lib.hid (owns_only HR8.out (HW9.out.trans ho10) (fun _ _ e => e))
            clear hs10 ho10 hO10 hone9 HC9 q2 q3 hxl3 hpk3 hbk3
            cases r10 with
            | false =>
              have HNo := Lib.hid (hn10 rfl)
              clear hy10 hn10
              go_wp2
              go_ret2
              refine ⟨_, 10, rfl, HO.out.trans HO10.out, .inl ⟨rfl, rfl, fun hall => HNo.out ?_⟩⟩
              have h9 := hall k hlt x (List.mem_of_getElem? HX.out)
              rwa [Hget.out.1, Hget.out.2] at h9
            | true =>
              have HY := Lib.hid (hy10 rfl)
              clear hy10 hn10
              have hQ9 : frm S s k + i = q := HQ.out
              have hcap := resB_cap m pk (wd : Int) x hm HisP.out HY.out.1
              have hJl := HJ.out.len
              rw [HL9.out] at hJl
              have HLn : Hid (L9.length + (resB pk (wd : Int) x).length ≤ 6 + 10 * (k + 1) + 65600 * (q + 1)) := Lib.hid (qb_len3 hJl hQ9 hcap)
              have FIN : Hid (∀ v u, Bitrow u w1.heap.size v (L9 ++ resB pk (wd : Int) x) → Only Nix w1 u → BkJ w1 S s m o ps bs l k (i + 1) v u) := Lib.hid (fun v u hr hou => by
                have e0 := lsI_succ S s m o ps bs l k i HX.out
                rw [HL9.out, Hget.out.1, Hget.out.2] at e0
                refine ⟨by rw [e0]; exact hr, ?_, hou, fun y hy => ?_⟩
                · rw [e0, List.length_append]
                  exact qb_len1 HLn.out hQ9
                · rw [List.take_add_one, HX.out, Option.toList_some, List.mem_append, List.mem_singleton] at hy
                  rcases hy with hy | rfl
                  · exact HJ.out.ok y hy
                  · rw [Hget.out.1, Hget.out.2]; exact HY.out.1)
              clear hcap hJl
              generalize hRB : resB pk (wd : Int) x = RB at *
              clear hRB
              go_wp2_with (at_builtin; refine wpList_append_row rfl (.tmp 120) (.tmp 121) rfl (.slice A8 L9.length c8) L9 rfl HR10.out HO10.out w9.heap.size v10 RB rfl HY.out.2 ?h63 ?rest)
              case h63 => exact qb_len2 HLn.out (by omega) (by omega)
              case rest =>
                intro v11 w11 hr11 ho11
                have FJ2 := Lib.hid (FIN.out v11 w11 hr11 ho11)
                generalize hLR : L9 ++ RB = LR at hr11
                clear hLR
                obtain ⟨A11, c11, hv11⟩ := owns_slice hr11
                subst hv11
                clear hr11 ho11
                go_wp2
                go_roundw
                case rel => exact ⟨i + 1, Hlen.out, by rw [← hQ9]; go_num, FJ2.out⟩
                case measure => simp [intOf]; omega
          · have hie : frm S s k + i = frm S s (k + 1) := by omega
            have hI2 : BkI w1 S s m o ps bs l (k + 1) (.slice A8 L9.length c8) wr := by
              have e0 := lsI_all S s m o ps bs l k i (by omega)
              rw [HL9.out] at e0
              refine ⟨by rw [← e0]; exact HR8.out, ?_, HO8.out, fun j hj y hy => ?_⟩
              · have h9 := HJ.out.len
                rw [HL9.out, hie] at h9
                rw [← e0]
                exact h9
              · rcases Nat.lt_or_ge j k with h | h
                · exact HI.out.ok j h y hy
                · obtain rfl : j = k := by omega
                  exact HJ.out.ok y (by rw [List.take_of_length_le (by omega)]; exact hy)
            have HI2 := Lib.hid hI2
            clear hI2
            have hnx := part_next S s k HG.out.2.2.1
            rw [hie]
            have hS0 : 0 < S := Nat.lt_of_le_of_lt (Nat.zero_le _) HG.out.2.2.1
            generalize hq : frm S s (k + 1) = q at *
            have HQ := Lib.hid hq
            have HPT := Lib.hid (partRef_any wr m o (N + s) s q (.slice (some adp) Np cp) (.slice (some adb) Np cb) Np S ho HG.out.1 HBN.out hS0 (by omega) hs (by omega))
            rw [hnx, Int.natCast_add N s] at HPT
            obtain ⟨K1, hK1⟩ : ∃ K1, K1 = k + 1 := ⟨_, rfl⟩
            rw [← hK1] at HPT
            by_cases hqN : q < N
            · have hqd : decide ((q : Int) < (N : Int)) = true := by simp; omega
              have hkk : ((K1 : Int) == (k : Int)) = false := by simp; omega
              clear hq hie hnx hfs hpl9 hst9 hlen
              go_wp2_with fail
              refine (HPT.out).mono ?_
              rintro e w9 ⟨rfl, ho9⟩
              have HI3 : Hid (BkI w1 S s m o ps bs l (k + 1) (.slice A8 L9.length c8) w9) := Lib.hid (HI2.out.nix ho9)
              clear ho9
              go_wp2
              go_roundw
              case rel => exact ⟨k + 1, hlt, by go_num, by rw [HQ.out], HI3.out⟩
              case measure => simp [intOf]; omega
            · have hqd : decide ((q : Int) < (N : Int)) = false := by simp; omega
              clear hq hie hnx hfs hpl9 hst9 hlen HPT
              go_wp2
              go_roundw
              case rel => exact ⟨k + 1, hlt, by go_num, by rw [HQ.out], HI2.out⟩
              case measure => simp [intOf]; omega
      · obtain ⟨pk, rfl⟩ := Int.eq_ofNat_of_zero_le p1
        have hx4 : pk < 2 ^ (4 + m) := by
          have : m = 0 ∨ m = 1 := by omega
          rcases this with rfl | rfl
          · exact Nat.lt_of_le_of_lt (show pk ≤ 14 by omega) (by decide)
          · exact Nat.lt_of_le_of_lt (show pk ≤ 30 by omega) (by decide)
        have c4 : (4 : Int) + (m : Int) = ((4 + m : Nat) : Int) := by omega
        have HQ1 := hm2 wr w1.heap.size _ L HR.out hsz5 HLl.out (4 + m) pk (by omega) hx4
        rw [← c4] at HQ1
        have hneg : decide ((pk : Int) < 0) = false := by simp
        clear c4 hx4
        go_wp2_with fail
        refine (HQ1.out).mono ?_
        rintro e w6 ⟨v6, rfl, hr6⟩
        obtain ⟨hrow6, ho7⟩ := hr6.then HR.out HO5.out
        have e6 : L ++ bitsN (4 + m) pk = L ++ hdB m (pk : Int) 0 := by
          unfold hdB
          rw [if_neg (by omega), Int.toNat_natCast]
        rw [e6] at hrow6
        have FJ := Lib.hid (fin.out w6 v6 hrow6 ho7)
        have HO7 := Lib.hid ho7
        clear e6
        generalize L ++ hdB m (pk : Int) 0 = LH at hrow6
        obtain ⟨A7, c7, hv7⟩ := owns_slice hrow6
        subst hv7
        clear hrow6 ho7 hr6 HQ1
        go_wp2
        go_loopw [10, 12] (fun s10 s12 u => BkN w1 S s m o ps bs l k s10 s12 u) (fun _ s12 _ => 300 - (intOf s12).toNat)
        case atStart => exact ⟨0, Nat.zero_le _, by simp, FJ.out⟩
        case round =>
          obtain ⟨i, hi2, rfl, hJ⟩ := hrel
          have ho8 := hJ.only
          have j0 := cell_keep ho8 d0
          have j1 := cell_keep ho8 d1
          have j2 := cell_keep ho8 d2
          have j3 := cell_keep ho8 d3
          obtain ⟨A8, c8, hv8⟩ := owns_slice hJ.row
          subst hv8
          have hrow8 := hJ.row
          generalize hL9 : lsI S s m o ps bs l k i = L9 at hrow8 ⊢
          have HL9 := Lib.hid hL9
          have HR8 := Lib.hid hrow8
          have HJ := Lib.hid hJ
          have HO8 := Lib.hid ho8
          have hsz8 := ho8.size
          clear hJ ho8 FJ hrow8
          clear hL9
          have hfs := frm_le S s (k + 1) Np l.length (by omega) (by rw [HN.out.1]; exact HG.out.2.1)
          rw [HN.out.1] at hfs
          have hpl9 := pt_len S s Np l k HG.out.2.2.1 (by omega) (by rw [HN.out.1]; exact HG.out.2.1)
          have hst9 := (frm_step S s k HG.out.2.2.1).1
          have HBN : Hid ((N + s) / Np = S) := Lib.hid (by
            rw [← HG.out.2.1]
            exact Nat.mul_div_cancel_left _ (by omega))
          by_cases hlen : i < (pt S s l k).length
          · have hqN : frm S s k + i < N := by omega
            have hq9 : frm S s k + i < frm S s (k + 1) := by omega
            have hpo := part_of S s k (frm S s k + i) HG.out.2.2.1 (by omega) hq9
            have hql : frm S s k + i < l.length := by rw [HN.out.1]; exact hqN
            have hxe : (pt S s l k)[i]? = some (l[frm S s k + i]) := by rw [List.getElem?_eq_getElem hlen]; simp [pt]
            generalize hq : frm S s k + i = q at *
            have HQ := Lib.hid hq
            have Hlen := Lib.hid hlen
            obtain ⟨adl, rfl, hxl⟩ := HL.out.at_ hql
            generalize l[q] = x at hxl hxe
            have HX := Lib.hid hxe
            have hS0 : 0 < S := Nat.lt_of_le_of_lt (Nat.zero_le _) HG.out.2.2.1
            have hxl2 := cell_keep (HO.out.trans HO8.out) hxl
            have hpk9 := cell_keep (HO.out.trans HO8.out) hpk
            have hbk9 := cell_keep (HO.out.trans HO8.out) hbk
            have HPT := Lib.hid (partRef_any wr m o (N + s) s q (.slice (some adp) Np cp) (.slice (some adb) Np cb) Np S ho HG.out.1 HBN.out hS0 (by omega) hs (by omega))
            rw [hpo, Int.natCast_add] at HPT
            have hone : ∀ u, Hid (Calls Tryz.prog 87 #[iv x, iv (pk : Int), iv 0] u (OneR u (pk : Int) 0 x)) := fun u => Lib.hid (oneRef_any u x (pk : Int) 0 (by right; omega))
            have hqd : decide ((q : Int) < (N : Int)) = true := by simp; omega
            clear hq hxe hpo hq9 hfs hpl9 hst9 hlen hql
            go_wp2_with fail
            refine (HPT.out).mono ?_
            rintro e w9 ⟨rfl, ho9⟩
            have hO9 := HO8.out.trans ho9
            have q2 := cell_keep ho9 j2
            have q3 := cell_keep ho9 j3
            have hxl3 := cell_keep ho9 hxl2
            have hpk3 := cell_keep ho9 hpk9
            have hbk3 := cell_keep ho9 hbk9
            have HO9 := Lib.hid hO9
            have HW9 := Lib.hid ho9
            clear ho9 hO9 HPT j0 j1 j2 j3 hxl2 hpk9 hbk9 k0 k2 k3
            have HC9 : Hid (∀ u, Only Nix w9 u → (Only Nix w9 u ∧ u.cell? ⟨w.heap.size, 2, none⟩ = some (.slice (some adp) Np cp) ∧ u.cell? ⟨w.heap.size, 3, none⟩ = some (.slice (some adb) Np cb) ∧ u.cell? (adl.add q) = some (iv x) ∧ u.cell? (adp.add k) = some (iv (pk : Int)) ∧ u.cell? (adb.add k) = some (iv 0))) := Lib.hid (fun u o => ⟨o, cell_keep o q2, cell_keep o q3, cell_keep o hxl3, cell_keep o hpk3, cell_keep o hbk3⟩)
            have hone9 : ∀ u, (Only Nix w9 u ∧ u.cell? ⟨w.heap.size, 2, none⟩ = some (.slice (some adp) Np cp) ∧ u.cell? ⟨w.heap.size, 3, none⟩ = some (.slice (some adb) Np cb) ∧ u.cell? (adl.add q) = some (iv x) ∧ u.cell? (adp.add k) = some (iv (pk : Int)) ∧ u.cell? (adb.add k) = some (iv 0)) → Calls Tryz.prog 87 #[iv x, iv (pk : Int), iv 0] u (fun e w' => ∃ v r, e = .returned (.tuple #[v, .bool r]) ∧ (Only Nix w9 w' ∧ w'.cell? ⟨w.heap.size, 2, none⟩ = some (.slice (some adp) Np cp) ∧ w'.cell? ⟨w.heap.size, 3, none⟩ = some (.slice (some adb) Np cb) ∧ w'.cell? (adl.add q) = some (iv x) ∧ w'.cell? (adp.add k) = some (iv (pk : Int)) ∧ w'.cell? (adb.add k) = some (iv 0)) ∧ (r = true → okR (pk : Int) 0 x ∧ Bitrow w' w9.heap.size v (resB (pk : Int) 0 x)) ∧ (r = false → ¬ okR (pk : Int) 0 x)) := fun u hu =>
              ((hone u).out).mono fun e w' h => by
                obtain ⟨v, r, he, ho, h1, h2⟩ := h
                exact ⟨v, r, he, HC9.out _ (hu.1.trans ho), fun g => ⟨(h1 g).1, ownsRow_le (h1 g).2 hu.1.size⟩, h2⟩
            go_wp2_with fail
            go_region_held3 (fun u => (Only Nix w9 u ∧ u.cell? ⟨w.heap.size, 2, none⟩ = some (.slice (some adp) Np cp) ∧ u.cell? ⟨w.heap.size, 3, none⟩ = some (.slice (some adb) Np cb) ∧ u.cell? (adl.add q) = some (iv x) ∧ u.cell? (adp.add k) = some (iv (pk : Int)) ∧ u.cell? (adb.add k) = some (iv 0))) (first | assumption | (refine HC9.out _ ?_; first | exact Only.refl _ _ | exact (Only.refl _ _).drew | assumption)) (first
              | (go_at_call 87; (with_reducible refine (hone9 _ (by assumption)).mono ?_); rintro e w10 ⟨v10, r10, rfl, hs10, hy10, hn10⟩))
            have ho10 := hs10.1
            have hO10 : Only Nix w1 w10 := HO9.out.trans ho10
            have HO10 := Lib.hid hO10
            have HR10 : Hid (Bitrow w10 w1.heap.size (.slice A8 L9.length c8) L9) := Lib.hid (owns_only HR8.out (HW9.out.trans ho10) (fun _ _ e => e))
            clear hs10 ho10 hO10 hone9 HC9 q2 q3 hxl3 hpk3 hbk3
            cases r10 with
            | false =>
              have HNo := Lib.hid (hn10 rfl)
              clear hy10 hn10
              go_wp2
              go_ret2
              refine ⟨_, 10, rfl, HO.out.trans HO10.out, .inl ⟨rfl, rfl, fun hall => HNo.out ?_⟩⟩
              have h9 := hall k hlt x (List.mem_of_getElem? HX.out)
              rwa [Hget.out.1, Hget.out.2] at h9
            | true =>
              have HY := Lib.hid (hy10 rfl)
              clear hy10 hn10
              have hQ9 : frm S s k + i = q := HQ.out
              have hcap := resB_cap m (pk : Int) 0 x hm HisP.out HY.out.1
              have hJl := HJ.out.len
              rw [HL9.out] at hJl
              have HLn : Hid (L9.length + (resB (pk : Int) 0 x).length ≤ 6 + 10 * (k + 1) + 65600 * (q + 1)) := Lib.hid (qb_len3 hJl hQ9 hcap)
              have FIN : Hid (∀ v u, Bitrow u w1.heap.size v (L9 ++ resB (pk : Int) 0 x) → Only Nix w1 u → BkJ w1 S s m o ps bs l k (i + 1) v u) := Lib.hid (fun v u hr hou => by
                have e0 := lsI_succ S s m o ps bs l k i HX.out
                rw [HL9.out, Hget.out.1, Hget.out.2] at e0
                refine ⟨by rw [e0]; exact hr, ?_, hou, fun y hy => ?_⟩
                · rw [e0, List.length_append]
                  exact qb_len1 HLn.out hQ9
                · rw [List.take_add_one, HX.out, Option.toList_some, List.mem_append, List.mem_singleton] at hy
                  rcases hy with hy | rfl
                  · exact HJ.out.ok y hy
                  · rw [Hget.out.1, Hget.out.2]; exact HY.out.1)
              clear hcap hJl
              generalize hRB : resB (pk : Int) 0 x = RB at *
              clear hRB
              go_wp2_with (at_builtin; refine wpList_append_row rfl (.tmp 120) (.tmp 121) rfl (.slice A8 L9.length c8) L9 rfl HR10.out HO10.out w9.heap.size v10 RB rfl HY.out.2 ?h63 ?rest)
              case h63 => exact qb_len2 HLn.out (by omega) (by omega)
              case rest =>
                intro v11 w11 hr11 ho11
                have FJ2 := Lib.hid (FIN.out v11 w11 hr11 ho11)
                generalize hLR : L9 ++ RB = LR at hr11
                clear hLR
                obtain ⟨A11, c11, hv11⟩ := owns_slice hr11
                subst hv11
                clear hr11 ho11
                go_wp2
                go_roundw
                case rel => exact ⟨i + 1, Hlen.out, by rw [← hQ9]; go_num, FJ2.out⟩
                case measure => simp [intOf]; omega
          · have hie : frm S s k + i = frm S s (k + 1) := by omega
            have hI2 : BkI w1 S s m o ps bs l (k + 1) (.slice A8 L9.length c8) wr := by
              have e0 := lsI_all S s m o ps bs l k i (by omega)
              rw [HL9.out] at e0
              refine ⟨by rw [← e0]; exact HR8.out, ?_, HO8.out, fun j hj y hy => ?_⟩
              · have h9 := HJ.out.len
                rw [HL9.out, hie] at h9
                rw [← e0]
                exact h9
              · rcases Nat.lt_or_ge j k with h | h
                · exact HI.out.ok j h y hy
                · obtain rfl : j = k := by omega
                  exact HJ.out.ok y (by rw [List.take_of_length_le (by omega)]; exact hy)
            have HI2 := Lib.hid hI2
            clear hI2
            have hnx := part_next S s k HG.out.2.2.1
            rw [hie]
            have hS0 : 0 < S := Nat.lt_of_le_of_lt (Nat.zero_le _) HG.out.2.2.1
            generalize hq : frm S s (k + 1) = q at *
            have HQ := Lib.hid hq
            have HPT := Lib.hid (partRef_any wr m o (N + s) s q (.slice (some adp) Np cp) (.slice (some adb) Np cb) Np S ho HG.out.1 HBN.out hS0 (by omega) hs (by omega))
            rw [hnx, Int.natCast_add N s] at HPT
            obtain ⟨K1, hK1⟩ : ∃ K1, K1 = k + 1 := ⟨_, rfl⟩
            rw [← hK1] at HPT
            by_cases hqN : q < N
            · have hqd : decide ((q : Int) < (N : Int)) = true := by simp; omega
              have hkk : ((K1 : Int) == (k : Int)) = false := by simp; omega
              clear hq hie hnx hfs hpl9 hst9 hlen
              go_wp2_with fail
              refine (HPT.out).mono ?_
              rintro e w9 ⟨rfl, ho9⟩
              have HI3 : Hid (BkI w1 S s m o ps bs l (k + 1) (.slice A8 L9.length c8) w9) := Lib.hid (HI2.out.nix ho9)
              clear ho9
              go_wp2
              go_roundw
              case rel => exact ⟨k + 1, hlt, by go_num, by rw [HQ.out], HI3.out⟩
              case measure => simp [intOf]; omega
            · have hqd : decide ((q : Int) < (N : Int)) = false := by simp; omega
              clear hq hie hnx hfs hpl9 hst9 hlen HPT
              go_wp2
              go_roundw
              case rel => exact ⟨k + 1, hlt, by go_num, by rw [HQ.out], HI2.out⟩
              case measure => simp [intOf]; omega
    · obtain rfl : Np = k := by omega
      have hlt2 : decide (Np < Np) = false := by simp
      go_wp2
      go_ret2
      exact ⟨_, _, rfl, HO.out.trans HO5.out, .inr ⟨rfl, HI.out.ok, ownsRow_le HI.out.row HO.out.size, HI.out.len⟩⟩
end Go.Proofs.YteklfkpeaadinaaGreatDoor
namespace Go.Proofs.YteklfkpeaadinaaGreatDoor
open Go.RowKit Go.Joins

/-- the bits of a block; none, where it may not be written -/
noncomputable def outL (m o : Int) (ps bs : List Int) (s : Int) (l : List Int) : List Nat :=
  if sizeE m o ps bs s l = 0 then blockB ((l.length + s.toNat) / 2 ^ o.toNat) s.toNat (2 ^ o.toNat) m.toNat o.toNat ps bs l else []
theorem qb_len4 {a k f : Nat} (h : a ≤ 6 + 10 * k + 65600 * f) (hk : k ≤ 300) (hf : f ≤ 200) : a ≤ 100000000 :=
  Nat.le_trans h (Nat.le_trans (Nat.add_le_add (Nat.add_le_add_left (Nat.mul_le_mul_left 10 hk) 6) (Nat.mul_le_mul_left 65600 hf)) (by decide))
theorem bitsRef5_any {w : World} (m o s : Int) (A Ap Ab : Option Addr) (n np nb c cp cb : Nat) (ps bs l : List Int) (hs0 : -9223372036854775808 ≤ s) (hs1 : s ≤ 4611686018427387904)
    (hl : ISrc w (.slice A n c) l) (hp : ISrc w (.slice Ap np cp) ps) (hb : ISrc w (.slice Ab nb cb) bs) (hn2 : n ≤ 200) (hp3 : np ≤ 300) :
    Calls Tryz.prog 52 #[planV m o (.slice Ap np cp) (.slice Ab nb cb), iv s, .slice A n c] w fun e w' => ∃ v, e = .returned (.tuple #[v, iv (sizeE m o ps bs s l)]) ∧ Only Nix w w' ∧
      Bitrow w' w.heap.size v (outL m o ps bs s l) ∧ (outL m o ps bs s l).length ≤ 100000000 := by
  by_cases hE : ckC m o ps bs ((l.length : Int) + s) s = 0
  · obtain ⟨k1, k2, k3, k4⟩ := ckC_zero hE
    obtain ⟨m, o, b, s, rfl, rfl, e, rfl, j1, j2, j3, j4, j5, j6, j7⟩ := ckH_zero k1
    obtain rfl : b = l.length + s := by omega
    obtain ⟨i1, i2⟩ := ckP_zero j7
    rw [Int.toNat_natCast] at k2 k3
    have hpp : 0 < 2 ^ o := Nat.two_pow_pos o
    have hq : 2 ^ o * ((l.length + s) / 2 ^ o) = l.length + s := i1
    have hnl := hl.len
    have hpl := hp.len
    have hfl : frm ((l.length + s) / 2 ^ o) s (2 ^ o) ≤ 200 := by
      have := frm_le ((l.length + s) / 2 ^ o) s (2 ^ o) (2 ^ o) l.length (Nat.le_refl _) hq
      omega
    have hok := ok_all ((l.length + s) / 2 ^ o) s (2 ^ o) ps bs l (by omega) hq
    refine (bitsRef5_ok m o s (2 ^ o) ((l.length + s) / 2 ^ o) A Ap Ab n np nb c cp cb ps bs l hl hp hb hE (by omega) (by omega) (by omega) rfl hq (by omega) (by omega) (by omega) k2 k3 k4).mono ?_
    rintro e w' ⟨v, E, rfl, ho, h⟩
    rcases h with ⟨rfl, rfl, h⟩ | ⟨rfl, h, hr, hlen⟩
    · have hz : sizeE (m : Int) (o : Int) ps bs (s : Int) l = 10 := by
        unfold sizeE
        rw [if_neg (by simpa using hE), Int.toNat_natCast, Int.toNat_natCast, if_neg (fun g => h (hok.1 g))]
      have hz2 : outL (m : Int) (o : Int) ps bs (s : Int) l = [] := by
        unfold outL
        rw [hz, if_neg (by decide)]
      rw [hz, hz2]
      exact ⟨_, rfl, ho, World.ownsRow_nil _ _ _ _, by simp⟩
    · have hz : sizeE (m : Int) (o : Int) ps bs (s : Int) l = 0 := by
        unfold sizeE
        rw [if_neg (by simpa using hE), Int.toNat_natCast, Int.toNat_natCast, if_pos (hok.2 h)]
      have hz2 : outL (m : Int) (o : Int) ps bs (s : Int) l = blockB ((l.length + s) / 2 ^ o) s (2 ^ o) m o ps bs l := by
        unfold outL
        rw [if_pos hz]
        simp
      rw [hz, hz2]
      exact ⟨_, rfl, ho, hr, qb_len4 hlen (by omega) hfl⟩
  · have hz : sizeE m o ps bs s l = ckC m o ps bs ((l.length : Int) + s) s := by
      unfold sizeE
      rw [if_pos hE]
    have hz2 : outL m o ps bs s l = [] := by
      unfold outL
      rw [hz, if_neg hE]
    refine (bitsRef5_err m o s _ A Ap Ab n np nb c cp cb ps bs l hs0 hs1 hl hp hb rfl hE).mono ?_
    rintro e w' ⟨rfl, ho⟩
    rw [hz, hz2]
    exact ⟨_, rfl, ho, World.ownsRow_nil _ _ _ _, by simp⟩
set_option maxHeartbeats 1000000 in
theorem plain_any (w : World) (m o : Int) (Ap Ab : Option Addr) (np cp nb cb : Nat) :
    Calls Tryz.prog 53 #[planV m o (.slice Ap np cp) (.slice Ab nb cb)] w fun e w' => e = .returned (planV m o (.slice Ap np cp) (.slice Ab nb cb)) ∧ Only Nix w w' := by
  have HO := Lib.hid ((Only.refl Nix w).alloc (.cells #[iv m, iv o, .slice Ap np cp, .slice Ab nb cb] 26))
  have B0 := Box.new w 26 #[iv m, iv o, .slice Ap np cp, .slice Ab nb cb]
  have d0 := B0.cell 0
  have d1 := B0.cell 1
  have d2 := B0.cell 2
  have d3 := B0.cell 3
  simp only [List.getElem?_toArray, List.getElem?_cons_zero, List.getElem?_cons_succ] at d0 d1 d2 d3
  clear B0
  go_enter Tryz.func53, Tryz.ntmps53
  have HO2 := Lib.hid (HO.out.alloc (.cells #[iv m, iv o, .slice Ap np cp, .slice Ab nb cb] 54))
  go_wp2
  have B2 := Box.new (w.alloc (.cells #[iv m, iv o, .slice Ap np cp, .slice Ab nb cb] 26)) 54 #[iv m, iv o, .slice Ap np cp, .slice Ab nb cb]
  rw [World.size_alloc] at B2
  refine bodyPost_ret ?_ rfl ⟨rfl, HO2.out⟩
  have y0 := B2.cell 0
  have y1 := B2.cell 1
  have y2 := B2.cell 2
  have y3 := B2.cell 3
  simp only [List.getElem?_toArray, List.getElem?_cons_zero, List.getElem?_cons_succ] at y0 y1 y2 y3
  generalize (w.alloc (.cells #[iv m, iv o, .slice Ap np cp, .slice Ab nb cb] 26)).alloc (.cells #[iv m, iv o, .slice Ap np cp, .slice Ab nb cb] 54) = W2 at y0 y1 y2 y3 ⊢
  simp [results, Tryz.f53, go_sem, y0, y1, y2, y3]
end Go.Proofs.YteklfkpeaadinaaGreatDoor
