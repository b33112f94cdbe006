/-
  cheapest: how a part has the fewest bits; its closure.
-/
import Derived.Test.YtliemhadgbjjiaaLen64
import Derived.Test.YtliemhadgbjjiaaRSize
import Derived.Laws.EntriesVeiled
namespace Go.Proofs.Ytliemhadgbjjiaa
open Go.RowKit

/-- the best one so far, and one more -/
def stepC (m : Nat) (ns : List Nat) (st : Option (Int × Int)) (c : Int × Int) : Option (Int × Int) :=
  if mayP c.1 c.2 ns = true ∧ (∀ d, st = some d → szP m c.1 c.2 ns < szP m d.1 d.2 ns) then some c else st
/-- as it lies -/
def chV (m : Nat) (ns : List Nat) : Option (Int × Int) → Array Value
  | none => #[iv 0, iv 0, iv 0]
  | some c => #[iv c.1, iv c.2, iv (szP m c.1 c.2 ns : Nat)]
def FK (F K k : Nat) : Prop := k = F ∨ k = K
/-- what consider finds -/
structure Con (w : World) (B T F K m : Nat) (v : Value) (ns : List Nat) (st : Option (Int × Int)) : Prop where
  told : Told w B m v ns
  bt : Box w T 78 #[tellV B]
  bf : Box w F 4 #[.bool st.isSome]
  bk : Box w K 104 (chV m ns st)

theorem choice_put {u : World} {N : Nat} {x0 x1 x2 : Value} (b : Box u N 104 #[x0, x1, x2]) (y0 y1 y2 : Value) :
    Box (((u.setCell ⟨N, 0, none⟩ y0).setCell ⟨N, 1, none⟩ y1).setCell ⟨N, 2, none⟩ y2) N 104 #[y0, y1, y2] :=
  ((b.put 0 y0).put 1 y1).put 2 y2
theorem chV_form (m : Nat) (ns : List Nat) (st : Option (Int × Int)) : ∃ a b c : Int, chV m ns st = #[iv a, iv b, iv c] := by
  cases st with
  | none => exact ⟨0, 0, 0, rfl⟩
  | some d => exact ⟨_, _, _, rfl⟩
/-- behind the stores -/
theorem Con.found {w : World} {B T F K m : Nat} {A : Option Addr} {c n : Nat} {ns : List Nat} {st : Option (Int × Int)} (h : Con w B T F K m (.slice A n c) ns st) (d : Int × Int)
    (hd1 : F ≠ K) (hd2 : T ≠ F) (hd3 : T ≠ K) (hB : ∀ j, j < 3 → B + j ≠ F ∧ B + j ≠ K) (hsrc : ∀ ad, A = some ad → ad.block ≠ F ∧ ad.block ≠ K) :
    Con ((((w.setCell ⟨K, 0, none⟩ (iv d.1)).setCell ⟨K, 1, none⟩ (iv d.2)).setCell ⟨K, 2, none⟩ (iv (szP m d.1 d.2 ns : Nat))).setCell ⟨F, 0, none⟩ (.bool true)) B T F K m (.slice A n c) ns (some d) ∧
    Only (FK F K) w ((((w.setCell ⟨K, 0, none⟩ (iv d.1)).setCell ⟨K, 1, none⟩ (iv d.2)).setCell ⟨K, 2, none⟩ (iv (szP m d.1 d.2 ns : Nat))).setCell ⟨F, 0, none⟩ (.bool true)) := by
  have ho : Only (FK F K) w ((((w.setCell ⟨K, 0, none⟩ (iv d.1)).setCell ⟨K, 1, none⟩ (iv d.2)).setCell ⟨K, 2, none⟩ (iv (szP m d.1 d.2 ns : Nat))).setCell ⟨F, 0, none⟩ (.bool true)) :=
    ((((Only.refl _ w).setCell (p := ⟨K, 0, none⟩) (.inl (.inr rfl)) _).setCell (p := ⟨K, 1, none⟩) (.inl (.inr rfl)) _).setCell (p := ⟨K, 2, none⟩) (.inl (.inr rfl)) _).setCell (p := ⟨F, 0, none⟩) (.inl (.inl rfl)) _
  have nB : ∀ j, j < 3 → ¬ FK F K (B + j) := fun j hj e => by
    rcases e with e | e
    · exact (hB j hj).1 e
    · exact (hB j hj).2 e
  obtain ⟨x, y, z, hxyz⟩ := chV_form m ns st
  have bk := h.bk
  rw [hxyz] at bk
  refine ⟨⟨⟨h.told.b0.only ho (nB 0 (by omega)), h.told.b1.only ho (nB 1 (by omega)), h.told.b2.only ho (nB 2 (by omega)), h.told.src.only ho (fun i _ hF ad k c' e _ => ?_)⟩, h.bt.only ho (fun e => ?_), ?_, ?_⟩, ho⟩
  · injection e with e1 _ _
    have h1 := hsrc ad e1
    rcases hF with rfl | rfl
    · exact h1.1
    · exact h1.2
  · rcases e with e | e
    · exact hd2 e
    · exact hd3 e
  · have b1 : Box (((w.setCell ⟨K, 0, none⟩ (iv d.1)).setCell ⟨K, 1, none⟩ (iv d.2)).setCell ⟨K, 2, none⟩ (iv (szP m d.1 d.2 ns : Nat))) F 4 #[.bool st.isSome] :=
      ((h.bf.off (p := ⟨K, 0, none⟩) hd1 _).off (p := ⟨K, 1, none⟩) hd1 _).off (p := ⟨K, 2, none⟩) hd1 _
    exact b1.put 0 (.bool true)
  · exact (choice_put bk (iv d.1) (iv d.2) (iv (szP m d.1 d.2 ns : Nat))).off (p := ⟨F, 0, none⟩) (fun e => hd1 e.symm) _

set_option maxHeartbeats 2000000 in
theorem consider_any {w : World} {B T F K m : Nat} {A : Option Addr} {c n : Nat} {ns : List Nat} {st : Option (Int × Int)} (h : Con w B T F K m (.slice A n c) ns st) (hm : m ≤ 1) (p wd : Int) (hp : isP m p wd) (h1 : 1 ≤ ns.length) (h6 : ns.length ≤ 65535)
    (hlt : ∀ n ∈ ns, n < 4294967296) (hd1 : F ≠ K) (hd2 : T ≠ F) (hd3 : T ≠ K) (hB : ∀ j, j < 3 → B + j ≠ F ∧ B + j ≠ K) (hsrc : ∀ ad, A = some ad → ad.block ≠ F ∧ ad.block ≠ K) :
    Calls Try.prog 78 #[iv p, iv wd, .pointer (some ⟨T, 0, none⟩), .pointer (some ⟨F, 0, none⟩), .pointer (some ⟨K, 0, none⟩)] w fun e w' =>
      (∃ v, e = .returned v) ∧ Con w' B T F K m (.slice A n c) ns (stepC m ns st (p, wd)) ∧ Only (FK F K) w w' := by
  have HT := Lib.hid (tell_any h.told hm p wd hp h1 h6 hlt)
  have dt := h.bt.cell 0
  simp only [List.getElem?_toArray, List.getElem?_cons_zero] at dt
  go_enter Try.func78, Try.ntmps78
  go_wp2_with fail
  refine (HT.out).mono ?_
  rintro e w1 ⟨rfl, k1, rfl⟩
  have o1 := (Only.refl Nix w).drewN k1
  have bf := h.bf.only o1 (fun e => e)
  have bk := h.bk.only o1 (fun e => e)
  have H1 : Hid (Con (w.drewN k1) B T F K m (.slice A n c) ns st) := Lib.hid ⟨h.told.nix o1, h.bt.only o1 (fun e => e), bf, bk⟩
  have HO1 := Lib.hid o1
  clear HT dt h o1
  have cf := bf.cell 0
  simp only [List.getElem?_toArray, List.getElem?_cons_zero] at cf
  generalize w.drewN k1 = w1 at *
  by_cases hmy : mayP p wd ns = true
  · rw [hmy]
    have ff := bf.frozen 0
    have fk0 := bk.frozen 0
    have fk1 := bk.frozen 1
    have fk2 := bk.frozen 2
    obtain ⟨x, y, z, hxyz⟩ := chV_form m ns st
    rw [hxyz] at bk
    have ck0 := bk.cell 0
    have ck1 := bk.cell 1
    have ck2 := bk.cell 2
    simp only [List.getElem?_toArray, List.getElem?_cons_zero, List.getElem?_cons_succ] at ck0 ck1 ck2
    have hfin := Lib.hid (H1.out.found (p, wd) hd1 hd2 hd3 hB hsrc)
    cases st with
    | none =>
      simp only [Option.isSome_none] at cf
      have hst : stepC m ns none (p, wd) = some (p, wd) := by unfold stepC; rw [if_pos ⟨hmy, fun d e => by cases e⟩]
      have Hst := Lib.hid hst
      clear hst hmy bk bf
      go_wp2
      go_end0
      rw [Hst.out]
      exact ⟨⟨_, rfl⟩, hfin.out.1, HO1.out.nix.trans hfin.out.2⟩
    | some d =>
      simp only [Option.isSome_some] at cf
      have hz : z = (szP m d.1 d.2 ns : Nat) := by
        unfold chV at hxyz
        have h9 := hxyz.symm
        simp at h9
        exact h9.2.2
      by_cases hl : szP m p wd ns < szP m d.1 d.2 ns
      · have hst : stepC m ns (some d) (p, wd) = some (p, wd) := by unfold stepC; rw [if_pos ⟨hmy, fun d' e => by cases e; exact hl⟩]
        have Hst := Lib.hid hst
        have hlz : decide ((szP m p wd ns : Int) < z) = true := by rw [hz]; simpa using hl
        clear hst hmy bk bf hz hl hxyz
        go_wp2
        go_end0
        rw [Hst.out]
        exact ⟨⟨_, rfl⟩, hfin.out.1, HO1.out.nix.trans hfin.out.2⟩
      · have hst : stepC m ns (some d) (p, wd) = some d := by unfold stepC; rw [if_neg (fun e => hl (e.2 d rfl))]
        have Hst := Lib.hid hst
        have hlz : decide ((szP m p wd ns : Int) < z) = false := by rw [hz]; simpa using hl
        clear hst hmy bk bf hz hl hxyz
        go_wp2
        go_end0
        rw [Hst.out]
        exact ⟨⟨_, rfl⟩, H1.out, HO1.out.nix⟩
  · have hmf : mayP p wd ns = false := by simpa using hmy
    have hst : stepC m ns st (p, wd) = st := by unfold stepC; rw [if_neg (fun e => hmy e.1)]
    have Hst := Lib.hid hst
    rw [hmf]
    clear hst hmf hmy bk bf
    go_wp2
    go_end0
    rw [Hst.out]
    exact ⟨⟨_, rfl⟩, H1.out, HO1.out.nix⟩
/-- what is considered -/
def cand (m W : Nat) : List (Int × Int) := (List.range (min W (14 + 16 * m) + 1)).map (fun (p : Nat) => ((p : Int), (0 : Int))) ++ (if W ≤ 31 then [(-1, (W : Int))] else [])
/-- the best one -/
def chp (m : Nat) (ns : List Nat) : Option (Int × Int) := (cand m (Lib.bitLen (mxN ns))).foldl (stepC m ns) none

/-- the results, stored once more -/
abbrev chW (w w5 : World) (y0 y1 y2 : Int) (b : Bool) : World :=
  ((((w5.setCell ⟨w.heap.size, 0, none⟩ (.int .i64 y0)).setCell ⟨w.heap.size, 1, none⟩ (.int .i64 y1)).setCell ⟨w.heap.size, 2, none⟩ (.int .i64 y2)).setCell ⟨w.heap.size + 1, 0, none⟩ (.bool b)).drew
theorem ch_ret {w w5 : World} {y0 y1 y2 : Int} {b : Bool} (ho : Only Nix w w5) (bk : Box w5 w.heap.size 104 #[iv y0, iv y1, iv y2]) (bf : Box w5 (w.heap.size + 1) 4 #[.bool b]) :
    Box (chW w w5 y0 y1 y2 b) w.heap.size 104 #[iv y0, iv y1, iv y2] ∧ Box (chW w w5 y0 y1 y2 b) (w.heap.size + 1) 4 #[.bool b] ∧ Only Nix w (chW w w5 y0 y1 y2 b) := by
  refine ⟨?_, ?_, ?_⟩
  · exact ((choice_put bk (iv y0) (iv y1) (iv y2)).off (p := ⟨w.heap.size + 1, 0, none⟩) (by show w.heap.size ≠ w.heap.size + 1; omega) _).only (Only.refl Nix _).drew (fun e => e)
  · have h : Box (((w5.setCell ⟨w.heap.size, 0, none⟩ (.int .i64 y0)).setCell ⟨w.heap.size, 1, none⟩ (.int .i64 y1)).setCell ⟨w.heap.size, 2, none⟩ (.int .i64 y2)) (w.heap.size + 1) 4 #[.bool b] :=
      ((bf.off (p := ⟨w.heap.size, 0, none⟩) (by show w.heap.size + 1 ≠ w.heap.size; omega) _).off (p := ⟨w.heap.size, 1, none⟩) (by show w.heap.size + 1 ≠ w.heap.size; omega) _).off (p := ⟨w.heap.size, 2, none⟩) (by show w.heap.size + 1 ≠ w.heap.size; omega) _
    exact (h.put 0 (.bool b)).only (Only.refl Nix _).drew (fun e => e)
  · exact ((((ho.setCell (p := ⟨w.heap.size, 0, none⟩) (.inr (Nat.le_refl _)) _).setCell (p := ⟨w.heap.size, 1, none⟩) (.inr (Nat.le_refl _)) _).setCell (p := ⟨w.heap.size, 2, none⟩) (.inr (Nat.le_refl _)) _).setCell (p := ⟨w.heap.size + 1, 0, none⟩) (.inr (Nat.le_succ _)) _).drew
/-- the parameters below j, considered -/
def fdl (m : Nat) (ns : List Nat) (j : Nat) : Option (Int × Int) := ((List.range j).map fun (p : Nat) => ((p : Int), (0 : Int))).foldl (stepC m ns) none
theorem fdl_succ (m : Nat) (ns : List Nat) (j : Nat) : fdl m ns (j + 1) = stepC m ns (fdl m ns j) ((j : Int), 0) := by
  unfold fdl
  rw [List.range_succ, List.map_append, List.foldl_append]
  rfl
def ChP (w : World) (m : Nat) (A : Option Addr) (c : Nat) (ns : List Nat) (q : Nat) (s : Value) (wr : World) : Prop :=
  ∃ j : Nat, j ≤ q + 1 ∧ s = iv j ∧ Con wr (w.heap.size + 2) (w.heap.size + 5) (w.heap.size + 1) w.heap.size m (.slice A ns.length c) ns (fdl m ns j) ∧ Only Nix w wr

set_option maxRecDepth 100000 in
set_option maxHeartbeats 2000000 in
theorem cheapest_any {w : World} (m : Nat) (hm : m ≤ 1) (A : Option Addr) (n c : Nat) (ns : List Nat) (hx : ISrc w (.slice A n c) (ivs ns)) (h1 : 1 ≤ ns.length) (h6 : ns.length ≤ 65535) (hlt : ∀ n ∈ ns, n < 4294967296) :
    Calls Try.prog 70 #[iv m, .slice A n c] w fun e w' => e = .returned (.tuple #[.agg (chV m ns (chp m ns)), .bool (chp m ns).isSome]) ∧ Only Nix w w' := by
  have hl := hx.len
  rw [ivs_len] at hl
  subst hl
  have hml := hlt _ (mxN_mem (ns := ns) (by omega))
  have o0 := ((Only.refl Nix w).alloc (.cells #[Value.int .i64 0, Value.int .i64 0, Value.int .i64 0] 104)).alloc (.cells #[Value.bool false] 4)
  have bK := (Box.new w 104 #[Value.int .i64 0, Value.int .i64 0, Value.int .i64 0]).alloc (.cells #[Value.bool false] 4)
  have bF := Box.new (w.alloc (.cells #[Value.int .i64 0, Value.int .i64 0, Value.int .i64 0] 104)) 4 #[Value.bool false]
  rw [World.size_alloc] at bF
  have hs0 : ((w.alloc (.cells #[Value.int .i64 0, Value.int .i64 0, Value.int .i64 0] 104)).alloc (.cells #[Value.bool false] 4)).heap.size = w.heap.size + 2 := by simp
  have HC := Lib.hid (cost_any m A c ns (hx.nix o0) h1)
  rw [hs0] at HC
  have hsrcA : ∀ ad, A = some ad → ad.block < w.heap.size := fun ad e => by
    obtain ⟨ad2, e2, hc2⟩ := hx.at_ (k := 0) (by rw [ivs_len]; omega)
    rw [e] at e2
    injection e2 with e2
    subst e2
    have := World.block_lt_of_cell? w _ hc2
    rwa [add_block] at this
  have HS := Lib.hid hsrcA
  have HO0 := Lib.hid o0
  have HK := Lib.hid bK
  have HF := Lib.hid bF
  have HX := Lib.hid hx
  clear hx o0 bK bF hs0 hsrcA
  go_enter Try.func70, Try.ntmps70
  go_wp2_with fail
  refine (HC.out).mono ?_
  rintro e w2 ⟨rfl, hT2, o2, hs2⟩
  clear HC
  have hs2' : w2.heap.size = w.heap.size + 5 := hs2
  have o3 := (Only.refl Nix w2).alloc (.cells #[Value.nilFunc] 78)
  have bT := Box.new w2 78 #[Value.nilFunc]
  rw [hs2'] at bT
  obtain ⟨W3, hW3⟩ : ∃ W3, w2.alloc (.cells #[Value.nilFunc] 78) = W3 := ⟨_, rfl⟩
  rw [hW3] at o3 bT
  have dT := bT.cell 0
  have fT := bT.frozen 0
  simp only [List.getElem?_toArray, List.getElem?_cons_zero] at dT
  have bT2 := bT.put 0 (tellV (w.heap.size + 2))
  have o4 : Only Nix w2 (W3.setCell ⟨w.heap.size + 5, 0, none⟩ (tellV (w.heap.size + 2))) := o3.setCell (p := ⟨w.heap.size + 5, 0, none⟩) (.inr (by rw [hs2']; exact Nat.le_refl _)) _
  have hC0 : Hid (Con (W3.setCell ⟨w.heap.size + 5, 0, none⟩ (tellV (w.heap.size + 2))) (w.heap.size + 2) (w.heap.size + 5) (w.heap.size + 1) w.heap.size m (.slice A ns.length c) ns none) :=
    Lib.hid ⟨hT2.nix o4, bT2, (HF.out.only (o2.trans o4) (fun e => e)), (HK.out.only (o2.trans o4) (fun e => e))⟩
  have HO3 := Lib.hid (HO0.out.trans (o2.trans o4))
  have HM := Lib.hid (max_any A c (ivs ns) (ISrc.nix (by rw [ivs_len]; exact HX.out) HO3.out) (by rw [ivs_len]; exact h1))
  rw [mxI_ivs (by omega), ivs_len] at HM
  clear hT2 o2 hs2 o3 o4 bT bT2 HF HK
  go_wp2_with fail
  generalize W3.setCell ⟨w.heap.size + 5, 0, none⟩ (tellV (w.heap.size + 2)) = W4 at *
  refine (HM.out).mono ?_
  rintro e w3 ⟨rfl, rfl⟩
  have HLn := Lib.hid (len_any64 W4 (mxN ns) hml)
  clear HM hW3 dT fT hs2'
  go_wp2_with fail
  refine (HLn.out).mono ?_
  rintro e w3 ⟨rfl, hw3⟩
  subst hw3
  have hWl : Lib.bitLen (mxN ns) ≤ 32 := bl_lower _ 32 hml
  have HCH : Hid (chp m ns = (cand m (Lib.bitLen (mxN ns))).foldl (stepC m ns) none) := Lib.hid rfl
  obtain ⟨M, hM⟩ : ∃ M : Nat, 14 + 16 * m = M := ⟨_, rfl⟩
  have hMi : 14 + 16 * (m : Int) = (M : Int) := by omega
  have HMP := Lib.hid (mostParam_any w3 (m : Int) (by omega))
  rw [hMi] at HMP
  unfold cand at HCH
  rw [hM] at HCH
  clear HLn hMi
  generalize hWe : Lib.bitLen (mxN ns) = W at *
  clear hWe
  obtain ⟨q, hq⟩ : ∃ q, min W M = q := ⟨_, rfl⟩
  rw [hq] at HCH
  have hqM : q ≤ M := by omega
  have HqM := Lib.hid hqM
  have HMm := Lib.hid hM
  have hD1 : w.heap.size + 1 ≠ w.heap.size := by omega
  have hD2 : w.heap.size + 5 ≠ w.heap.size + 1 := by omega
  have hD3 : w.heap.size + 5 ≠ w.heap.size := by omega
  have HD := Lib.hid (And.intro hD1 (And.intro hD2 hD3))
  have HCo : ∀ u st p wd, Con u (w.heap.size + 2) (w.heap.size + 5) (w.heap.size + 1) w.heap.size m (.slice A ns.length c) ns st → Only Nix w u → isP m p wd →
      Hid (Calls Try.prog 78 #[iv p, iv wd, .pointer (some ⟨w.heap.size + 5, 0, none⟩), .pointer (some ⟨w.heap.size + 1, 0, none⟩), .pointer (some ⟨w.heap.size, 0, none⟩)] u fun e w' =>
        (∃ v, e = .returned v) ∧ Con w' (w.heap.size + 2) (w.heap.size + 5) (w.heap.size + 1) w.heap.size m (.slice A ns.length c) ns (stepC m ns st (p, wd)) ∧ Only Nix w w') := fun u st p wd hc ho hp => Lib.hid (by
    refine (consider_any hc hm p wd hp h1 h6 hlt HD.out.1 HD.out.2.1 HD.out.2.2 (fun j hj => ⟨by omega, by omega⟩) (fun ad e => by have := HS.out ad e; exact ⟨by omega, by omega⟩)).mono ?_
    rintro e w' ⟨hv, hc', ho'⟩
    exact ⟨hv, hc', ho.then ho' (fun i e => .inr (by rcases e with e | e <;> omega))⟩)
  clear hD1 hD2 hD3 hqM hM hlt
  rcases Nat.lt_or_ge M W with hw | hw
  · obtain rfl : M = q := by omega
    have hwn : ¬ W < M := by omega
    go_wp2_with fail
    refine (HMP.out).mono ?_
    rintro e w4 ⟨rfl, rfl⟩
    clear HMP
    go_wp2
    go_loopw [23] (fun s23 wr => ChP w m A c ns M s23 wr) (fun s23 _ => M + 1 - (intOf s23).toNat)
    case atStart => exact ⟨0, by omega, rfl, hC0.out, HO3.out⟩
    case round =>
      obtain ⟨j, hj, rfl, hCj, hOj⟩ := hrel
      by_cases hlt : j < M + 1
      · have hcs := HCo wr _ (j : Int) 0 hCj hOj (.inr ⟨by omega, by have := HMm.out; have := HqM.out; omega, rfl⟩)
        have hlt2 : (j : Int) < (M : Int) + 1 := by omega
        clear hCj hOj hC0 HO3
        go_wp2_with fail
        refine (hcs.out).mono ?_
        rintro e w5 ⟨⟨v, rfl⟩, hC5, hO5⟩
        have HC5 := Lib.hid hC5
        have HO5 := Lib.hid hO5
        clear hcs hC5 hO5
        go_wp2
        go_roundw
        case rel => exact ⟨j + 1, by omega, by go_num, by rw [fdl_succ]; exact HC5.out, HO5.out⟩
        case measure => simp [intOf]; omega
      · obtain rfl : j = M + 1 := by omega
        have hlt2 : decide (((M + 1 : Nat) : Int) < (M : Int) + 1) = false := by simp
        have hlt3 : ¬ ((M : Int) + 1 < (M : Int) + 1) := by omega
        have HCH2 : Hid (chp m ns = (if W ≤ 31 then [(-1, (W : Int))] else []).foldl (stepC m ns) (fdl m ns (M + 1))) := Lib.hid (by rw [HCH.out, List.foldl_append]; rfl)
        have HCj := Lib.hid hCj
        have HOj := Lib.hid hOj
        by_cases hW31 : W ≤ 31
        · have hwd : decide ((W : Int) ≤ 31) = true := by simp; omega
          have hcs := HCo wr _ (-1) (W : Int) hCj hOj (.inl ⟨rfl, by omega, by omega⟩)
          have HCH3 : Hid (chp m ns = stepC m ns (fdl m ns (M + 1)) (-1, (W : Int))) := Lib.hid (by rw [HCH2.out, if_pos hW31]; rfl)
          clear hCj hOj hC0 HO3
          go_wp2_with fail
          refine (hcs.out).mono ?_
          rintro e w5 ⟨⟨v, rfl⟩, hC5, hO5⟩
          rw [← HCH3.out] at hC5
          obtain ⟨y0, y1, y2, hxyz⟩ := chV_form m ns (chp m ns)
          have bk := hC5.bk
          have bf := hC5.bf
          rw [hxyz] at bk
          have k0 := bk.cell 0
          have k1 := bk.cell 1
          have k2 := bk.cell 2
          have f0 := bf.cell 0
          simp only [List.getElem?_toArray, List.getElem?_cons_zero, List.getElem?_cons_succ] at k0 k1 k2 f0
          have g0 := bk.frozen 0
          have g1 := bk.frozen 1
          have g2 := bk.frozen 2
          have g3 := bf.frozen 0
          have HO5 := Lib.hid hO5
          have Hbk := Lib.hid bk
          have Hbf := Lib.hid bf
          have Hxyz := Lib.hid hxyz
          clear hcs hC5 hO5 bk bf hxyz
          go_wp2
          go_region
          obtain ⟨b1, b2, o6⟩ := ch_ret HO5.out Hbk.out Hbf.out
          unfold chW at b1 b2 o6
          generalize World.drew _ = w6 at b1 b2 o6 ⊢
          have k0' := b1.cell 0
          have k1' := b1.cell 1
          have k2' := b1.cell 2
          have f0' := b2.cell 0
          simp only [List.getElem?_toArray, List.getElem?_cons_zero, List.getElem?_cons_succ] at k0' k1' k2' f0'
          have HO6 := Lib.hid o6
          clear b1 b2 o6 k0 k1 k2 f0 g0 g1 g2 g3
          go_wp2
          refine bodyPost_ret (v := .tuple #[.agg #[iv y0, iv y1, iv y2], .bool (chp m ns).isSome]) ?_ rfl ⟨by rw [Hxyz.out], HO6.out⟩
          simp [results, Try.f70, go_sem, k0', k1', k2', f0']
        · have hwd : decide ((W : Int) ≤ 31) = false := by simp; omega
          have HCH3 : Hid (chp m ns = fdl m ns (M + 1)) := Lib.hid (by rw [HCH2.out, if_neg hW31]; rfl)
          have hC5 := hCj
          rw [← HCH3.out] at hC5
          obtain ⟨y0, y1, y2, hxyz⟩ := chV_form m ns (chp m ns)
          have bk := hC5.bk
          have bf := hC5.bf
          rw [hxyz] at bk
          have k0 := bk.cell 0
          have k1 := bk.cell 1
          have k2 := bk.cell 2
          have f0 := bf.cell 0
          simp only [List.getElem?_toArray, List.getElem?_cons_zero, List.getElem?_cons_succ] at k0 k1 k2 f0
          have g0 := bk.frozen 0
          have g1 := bk.frozen 1
          have g2 := bk.frozen 2
          have g3 := bf.frozen 0
          have HO5 := Lib.hid hOj
          have Hbk := Lib.hid bk
          have Hbf := Lib.hid bf
          have Hxyz := Lib.hid hxyz
          clear hC5 hCj hOj bk bf hxyz hC0 HO3
          go_wp2
          go_region
          obtain ⟨b1, b2, o6⟩ := ch_ret HO5.out Hbk.out Hbf.out
          unfold chW at b1 b2 o6
          generalize World.drew _ = w6 at b1 b2 o6 ⊢
          have k0' := b1.cell 0
          have k1' := b1.cell 1
          have k2' := b1.cell 2
          have f0' := b2.cell 0
          simp only [List.getElem?_toArray, List.getElem?_cons_zero, List.getElem?_cons_succ] at k0' k1' k2' f0'
          have HO6 := Lib.hid o6
          clear b1 b2 o6 k0 k1 k2 f0 g0 g1 g2 g3
          go_wp2
          refine bodyPost_ret (v := .tuple #[.agg #[iv y0, iv y1, iv y2], .bool (chp m ns).isSome]) ?_ rfl ⟨by rw [Hxyz.out], HO6.out⟩
          simp [results, Try.f70, go_sem, k0', k1', k2', f0']
  · obtain rfl : W = q := by omega
    go_wp2_with fail
    refine (HMP.out).mono ?_
    rintro e w4 ⟨rfl, rfl⟩
    clear HMP
    go_wp2
    go_loopw [23] (fun s23 wr => ChP w m A c ns W s23 wr) (fun s23 _ => W + 1 - (intOf s23).toNat)
    case atStart => exact ⟨0, by omega, rfl, hC0.out, HO3.out⟩
    case round =>
      obtain ⟨j, hj, rfl, hCj, hOj⟩ := hrel
      by_cases hlt : j < W + 1
      · have hcs := HCo wr _ (j : Int) 0 hCj hOj (.inr ⟨by omega, by have := HMm.out; have := HqM.out; omega, rfl⟩)
        have hlt2 : (j : Int) < (W : Int) + 1 := by omega
        clear hCj hOj hC0 HO3
        go_wp2_with fail
        refine (hcs.out).mono ?_
        rintro e w5 ⟨⟨v, rfl⟩, hC5, hO5⟩
        have HC5 := Lib.hid hC5
        have HO5 := Lib.hid hO5
        clear hcs hC5 hO5
        go_wp2
        go_roundw
        case rel => exact ⟨j + 1, by omega, by go_num, by rw [fdl_succ]; exact HC5.out, HO5.out⟩
        case measure => simp [intOf]; omega
      · obtain rfl : j = W + 1 := by omega
        have hlt2 : decide (((W + 1 : Nat) : Int) < (W : Int) + 1) = false := by simp
        have hlt3 : ¬ ((W : Int) + 1 < (W : Int) + 1) := by omega
        have HCH2 : Hid (chp m ns = (if W ≤ 31 then [(-1, (W : Int))] else []).foldl (stepC m ns) (fdl m ns (W + 1))) := Lib.hid (by rw [HCH.out, List.foldl_append]; rfl)
        have HCj := Lib.hid hCj
        have HOj := Lib.hid hOj
        by_cases hW31 : W ≤ 31
        · have hwd : decide ((W : Int) ≤ 31) = true := by simp; omega
          have hcs := HCo wr _ (-1) (W : Int) hCj hOj (.inl ⟨rfl, by omega, by omega⟩)
          have HCH3 : Hid (chp m ns = stepC m ns (fdl m ns (W + 1)) (-1, (W : Int))) := Lib.hid (by rw [HCH2.out, if_pos hW31]; rfl)
          clear hCj hOj hC0 HO3
          go_wp2_with fail
          refine (hcs.out).mono ?_
          rintro e w5 ⟨⟨v, rfl⟩, hC5, hO5⟩
          rw [← HCH3.out] at hC5
          obtain ⟨y0, y1, y2, hxyz⟩ := chV_form m ns (chp m ns)
          have bk := hC5.bk
          have bf := hC5.bf
          rw [hxyz] at bk
          have k0 := bk.cell 0
          have k1 := bk.cell 1
          have k2 := bk.cell 2
          have f0 := bf.cell 0
          simp only [List.getElem?_toArray, List.getElem?_cons_zero, List.getElem?_cons_succ] at k0 k1 k2 f0
          have g0 := bk.frozen 0
          have g1 := bk.frozen 1
          have g2 := bk.frozen 2
          have g3 := bf.frozen 0
          have HO5 := Lib.hid hO5
          have Hbk := Lib.hid bk
          have Hbf := Lib.hid bf
          have Hxyz := Lib.hid hxyz
          clear hcs hC5 hO5 bk bf hxyz
          go_wp2
          go_region
          obtain ⟨b1, b2, o6⟩ := ch_ret HO5.out Hbk.out Hbf.out
          unfold chW at b1 b2 o6
          generalize World.drew _ = w6 at b1 b2 o6 ⊢
          have k0' := b1.cell 0
          have k1' := b1.cell 1
          have k2' := b1.cell 2
          have f0' := b2.cell 0
          simp only [List.getElem?_toArray, List.getElem?_cons_zero, List.getElem?_cons_succ] at k0' k1' k2' f0'
          have HO6 := Lib.hid o6
          clear b1 b2 o6 k0 k1 k2 f0 g0 g1 g2 g3
          go_wp2
          refine bodyPost_ret (v := .tuple #[.agg #[iv y0, iv y1, iv y2], .bool (chp m ns).isSome]) ?_ rfl ⟨by rw [Hxyz.out], HO6.out⟩
          simp [results, Try.f70, go_sem, k0', k1', k2', f0']
        · have hwd : decide ((W : Int) ≤ 31) = false := by simp; omega
          have HCH3 : Hid (chp m ns = fdl m ns (W + 1)) := Lib.hid (by rw [HCH2.out, if_neg hW31]; rfl)
          have hC5 := hCj
          rw [← HCH3.out] at hC5
          obtain ⟨y0, y1, y2, hxyz⟩ := chV_form m ns (chp m ns)
          have bk := hC5.bk
          have bf := hC5.bf
          rw [hxyz] at bk
          have k0 := bk.cell 0
          have k1 := bk.cell 1
          have k2 := bk.cell 2
          have f0 := bf.cell 0
          simp only [List.getElem?_toArray, List.getElem?_cons_zero, List.getElem?_cons_succ] at k0 k1 k2 f0
          have g0 := bk.frozen 0
          have g1 := bk.frozen 1
          have g2 := bk.frozen 2
          have g3 := bf.frozen 0
          have HO5 := Lib.hid hOj
          have Hbk := Lib.hid bk
          have Hbf := Lib.hid bf
          have Hxyz := Lib.hid hxyz
          clear hC5 hCj hOj bk bf hxyz hC0 HO3
          go_wp2
          go_region
          obtain ⟨b1, b2, o6⟩ := ch_ret HO5.out Hbk.out Hbf.out
          unfold chW at b1 b2 o6
          generalize World.drew _ = w6 at b1 b2 o6 ⊢
          have k0' := b1.cell 0
          have k1' := b1.cell 1
          have k2' := b1.cell 2
          have f0' := b2.cell 0
          simp only [List.getElem?_toArray, List.getElem?_cons_zero, List.getElem?_cons_succ] at k0' k1' k2' f0'
          have HO6 := Lib.hid o6
          clear b1 b2 o6 k0 k1 k2 f0 g0 g1 g2 g3
          go_wp2
          refine bodyPost_ret (v := .tuple #[.agg #[iv y0, iv y1, iv y2], .bool (chp m ns).isSome]) ?_ rfl ⟨by rw [Hxyz.out], HO6.out⟩
          simp [results, Try.f70, go_sem, k0', k1', k2', f0']
end Go.Proofs.Ytliemhadgbjjiaa
