/-
  The document's answer: Bits of a channel that may be.
-/
import Derived.Test.YteklfkpeaadinaaGreatDoorPBS31
import Derived.Test.YteklfkpeaadinaaGreatDoorPBS25
import Derived.Test.YteklfkpeaadinaaGreatDoorPBS26
import Derived.Deep.Cut
import Derived.Deep.CutRange
namespace Go.Proofs.YteklfkpeaadinaaGreatDoor.S
open Go.RowKit Go.Shelf
open K (linV fx region_gho andV notYet andV_ne andOne_ne)
theorem putB {u : World} {base : Nat} {v : Value} {L : List Nat} (hr : Bitrow u base v L) (hb : base ≤ u.heap.size) (hL : L.length ≤ 100000000) (a x : Nat) (ha : a ≤ 48) (hx : x < 2 ^ a) :
    Calls Tryz.prog 48 #[v, iv a, iv x, .bool false] u fun e w' => ∃ v', e = .returned (.tuple #[v', iv 0]) ∧ RowTo u base v v' (L ++ bitsN a x) w' := by
  refine (putRefW_any false hr hb hL (a : Int) (x : Int)).mono ?_
  rintro e w2 ⟨v', rfl, hrow⟩
  have hx2 : (x : Int) < (2 : Int) ^ a := by rw [pow_cast]; omega
  obtain ⟨e1, e2⟩ := ref_ok false L a (x : Int) ha ((refNum_put a (x : Int)).2 ⟨by omega, hx2⟩)
  rw [e1]
  rw [e2, Int.emod_eq_of_lt (by omega) hx2, Int.toNat_natCast] at hrow
  exact ⟨v', rfl, hrow⟩
theorem putS {u : World} {base : Nat} {v : Value} {L : List Nat} (hr : Bitrow u base v L) (hb : base ≤ u.heap.size) (hL : L.length ≤ 100000000) (a : Nat) (x : Int) (ha : a ≤ 48) (hx : isS a x) :
    Calls Tryz.prog 48 #[v, iv a, iv x, .bool true] u fun e w' => ∃ v', e = .returned (.tuple #[v', iv 0]) ∧ RowTo u base v v' (L ++ numB a x) w' := by
  refine (putRefW_any true hr hb hL (a : Int) x).mono ?_
  rintro e w2 ⟨v', rfl, hrow⟩
  obtain ⟨e1, e2⟩ := ref_ok true L a x ha ((refNum_sgn a x).2 hx)
  rw [e1]
  rw [e2] at hrow
  exact ⟨v', rfl, hrow⟩
theorem unaB {u : World} {base : Nat} {v : Value} {L : List Nat} (hr : Bitrow u base v L) (hb : base ≤ u.heap.size) (hL : L.length ≤ 100000000) (x : Nat) (hx : x ≤ 65536) :
    Calls Tryz.prog 49 #[v, iv x] u fun e w' => ∃ v', e = .returned (.tuple #[v', iv 0]) ∧ RowTo u base v v' (L ++ (List.replicate x 0 ++ [1])) w' := by
  refine (unaryRefW_any hr hb hL (x : Int)).mono ?_
  rintro e w2 ⟨v', rfl, hrow⟩
  have e1 : unE (x : Int) = 0 := by unfold unE; rw [if_neg (by omega)]
  have e2 : unL L (x : Int) = L ++ (List.replicate x 0 ++ [1]) := by unfold unL; rw [if_pos e1, Int.toNat_natCast, List.append_assoc]
  rw [e1]
  rw [e2] at hrow
  exact ⟨v', rfl, hrow⟩
/-- a row behind a world -/
structure RoI (W0 u : World) (v : Value) (L : List Nat) : Prop where
  row : Bitrow u W0.heap.size v L
  only : Only Nix W0 u
theorem RoI.then {W0 u u' : World} {v v' : Value} {L L' : List Nat} (h : RoI W0 u v L) (hr : RowTo u W0.heap.size v v' L' u') : RoI W0 u' v' L' := ⟨(RowTo.then h.row h.only hr).1, (RowTo.then h.row h.only hr).2⟩
theorem RoI.nix {W0 u u' : World} {v : Value} {L : List Nat} (h : RoI W0 u v L) (ho : Only Nix u u') : RoI W0 u' v L := ⟨owns_only h.row ho (fun _ _ e => e), h.only.trans ho⟩
theorem RowTo.on {w u u' : World} {base : Nat} {v v1 v2 : Value} {L L' : List Nat} (h : RowTo w base v v1 L u) (hr : RowTo u base v1 v2 L' u') : RowTo w base v v2 L' u' :=
  ⟨hr.1, h.2.1.then hr.2.1 (fun i e => h.2.2 i e), h.2.2.trans hr.2.2 h.2.1.size⟩
theorem row_down {W : World} {a b n : Nat} {v : Value} {xs : List Value} (h : W.ownsRow b 3 1 v n xs) (hab : a ≤ b) : W.ownsRow a 3 1 v n xs := by
  refine ⟨h.1, ?_⟩
  rcases h.2 with hn | ⟨g, cap, cur, rfl, hg, rest⟩
  · exact .inl hn
  · exact .inr ⟨g, cap, cur, rfl, by omega, rest⟩
/-- a literal of one bit -/
theorem bit_row (w : World) (b : Nat) : Bitrow (w.alloc (.cells #[iv (b : Int)] 3)) w.heap.size (.slice (some ⟨w.heap.size, 0, none⟩) 1 1) [b] :=
  ⟨rfl, .inr ⟨w.heap.size, 1, #[iv (b : Int)], rfl, Nat.le_refl _, Box.new w 3 #[iv (b : Int)], Nat.le_refl _, by unfold maxLen; omega, rfl, rfl⟩⟩
/-- a box of another type stays -/
theorem box_row {w u : World} {base : Nat} {v v' : Value} {L L' : List Nat} {b : Nat} {t : TypeId} {cs : Array Value} (h : Bitrow w base v L) (hr : RowTo w base v v' L' u) (hb : Box w b t cs) (ht : 3 ≠ t) : Box u b t cs := by
  refine hb.only hr.2.1 (fun e => ?_)
  rcases h.2 with ⟨rfl, _⟩ | ⟨g, cap, cur, rfl, _, hg, _⟩
  · cases e
  · injection e with e
    have e : g = b := e
    subst e
    unfold Box at hb
    rw [hg] at hb
    injection hb with hb
    injection hb with _ hb
    exact ht hb
theorem cell_lt {w : World} {a : Addr} {v : Value} (h : w.cell? a = some v) : a.block < w.heap.size := by
  unfold World.cell? at h
  cases hg : w.heap[a.block]? with
  | none => rw [hg] at h; cases h
  | some o => exact (Array.getElem?_eq_some_iff.1 hg).1
theorem isrc_lt {w : World} {A : Option Addr} {n c : Nat} {xs : List Int} (h : ISrc w (.slice A n c) xs) : ∀ ad, A = some ad → 0 < n → ad.block < w.heap.size := by
  intro ad e hn
  subst e
  have hl := h.len
  obtain ⟨ad', e, hc⟩ := h.at_ (k := 0) (by omega)
  injection e with e
  subst e
  exact cell_lt hc
/-- how a channel is told -/
structure HwI (W4 : World) (P S : Int) (C : List Int) (v4 : Value) (u : World) : Prop where
  ex : ∃ Ah nh ch, Box u W4.heap.size 53 #[iv P, iv S, .slice Ah nh ch] ∧ ISrc u (.slice Ah nh ch) C ∧ ∀ ad, Ah = some ad → 0 < nh → v4.ownBlock ≠ some ad.block
  only : Only Nix W4 u
theorem HwI.nix {W4 u u' : World} {P S : Int} {C : List Int} {v4 : Value} (h : HwI W4 P S C v4 u) (ho : Only Nix u u') : HwI W4 P S C v4 u' := by
  obtain ⟨⟨Ah, nh, ch, h1, h2, h3⟩, h4⟩ := h
  exact ⟨⟨Ah, nh, ch, h1.only ho (fun e => e), h2.nix ho, h3⟩, h4.trans ho⟩
theorem bits7 : ∀ c, c < 64 → bitsN 7 c = bitsN 1 0 ++ bitsN 6 c := by decide
theorem head_cut (c wd : Nat) (hc : c < 64) : headB c wd = bitsN 7 c ++ wasB wd := by
  unfold headB
  rw [bits7 c hc, List.append_assoc]
/-- a call within a region that draws its order (operation 8) that writes: what it answers is not known ahead -/
structure PutW (W0 : World) (G : Value → World → Prop) (F : Nat → Value → Value) (L : Nat → Bool) (vs : Nat → Value) (u : World) : Prop where
  low : L 8 = false → Only Nix W0 u
  got : L 8 = true → ∃ v, G v u ∧ ∀ j, 8 ≤ j → j < 13 → L j = true → vs j = F j v
section
variable {W0 u u' : World} {G : Value → World → Prop} {F : Nat → Value → Value} {L : Nat → Bool} {vs : Nat → Value} {i : Nat} {x v : Value}
theorem PutW.lo (h : PutW W0 G F L vs u) (hL : L 8 = false) (hi : i < 8) (ho : Only Nix u u') : PutW W0 G F (andOne L i) (andV vs i x) u' :=
  ⟨fun _ => (h.low hL).trans ho, fun e => by rw [andOne_ne (by omega), hL] at e; cases e⟩
theorem PutW.ask (hn : ∀ j, 8 < j → j < 13 → L j = false) (hx : x = F 8 v) (hG : G v u') : PutW W0 G F (andOne L 8) (andV vs 8 x) u' := by
  refine ⟨fun e => by simp [andOne] at e, fun _ => ⟨v, hG, fun j h1 h2 hj => ?_⟩⟩
  by_cases hj8 : j = 8
  · subst hj8
    simp [andV, hx]
  · rw [andOne_ne (by omega), hn j (by omega) h2] at hj
    cases hj
theorem PutW.hi (h : PutW W0 G F L vs u) (hi : 8 < i) (hL : L 8 = true) (hx : ∀ v, (∀ j, 8 ≤ j → j < 13 → L j = true → vs j = F j v) → x = F i v) : PutW W0 G F (andOne L i) (andV vs i x) u := by
  refine ⟨(fun e => by rw [andOne_ne (by omega), hL] at e; cases e), fun _ => ?_⟩
  obtain ⟨v, hG, hv⟩ := h.got hL
  refine ⟨v, hG, fun j h1 h2 hj => ?_⟩
  by_cases hji : j = i
  · subst hji
    rw [hx v hv]
    simp [andV]
  · rw [andOne_ne (by omega)] at hj
    rw [andV_ne (by omega)]
    exact hv j h1 h2 hj
end
def Lp1 (W : World) (n : Nat) (s : Value) (wr : World) : Prop := ∃ j : Nat, j ≤ n ∧ s = iv j ∧ Only Nix W wr
def pwF (j : Nat) (v : Value) : Value := if j == 8 then .tuple #[v, iv 0] else if j == 9 then .tuple #[v, iv 0] else if j == 11 then iv 0 else v
theorem pw_eq {a b : Value} (h : Value.tuple #[a, iv 0] = pwF 9 b) : a = pwF 10 b := by
  have h : Value.tuple #[a, iv 0] = Value.tuple #[b, iv 0] := h
  injection h with h
  show a = b
  simpa using h
def Sp3 (W6 W3 : World) (v5 : Value) (H : List Nat) (cs : List Int) (P : Nat) (s13 s19 : Value) (wr : World) : Prop := ∃ (j : Nat) (v : Value), j ≤ cs.length ∧ s19 = iv j ∧ v = s13 ∧ RowTo W6 W3.heap.size v5 v (H ++ (cs.take j).flatMap (numB P)) wr
def Sp2 (W6 W3 : World) (v5 : Value) (H : List Nat) (ys : List Int) (dp : Nat) (s13 s18 : Value) (wr : World) : Prop := ∃ (j : Nat) (v : Value), j ≤ ys.length ∧ s18 = iv j ∧ v = s13 ∧ RowTo W6 W3.heap.size v5 v (H ++ (ys.take j).flatMap (numB dp)) wr
set_option maxRecDepth 100000 in
set_option maxHeartbeats 16000000 in
theorem bits7_ok {w : World} (k o wd d : Nat) (lp ls : Int) (Ac : Option Addr) (nc cc : Nat) (m ro : Int) (Ap Ab : Option Addr) (np cp nb cb : Nat) (A : Option Addr) (n c : Nat) (cs ps bs xs : List Int)
    (hcs : ISrc w (.slice Ac nc cc) cs) (hps : ISrc w (.slice Ap np cp) ps) (hbs : ISrc w (.slice Ab nb cb) bs) (hxs : ISrc w (.slice A n c) xs) (hn100 : n ≤ 100) (h0 : splE k o wd lp ls m ro cs ps bs d xs = 0) :
    Calls Tryz.prog 21 #[spV k o wd lp ls (.slice Ac nc cc) m ro (.slice Ap np cp) (.slice Ab nb cb), iv d, .slice A n c] w fun e w' => ∃ v, e = .returned (.tuple #[v, iv 0]) ∧ Only Nix w w' ∧ Bitrow w' w.heap.size v (chB k o wd lp ls m ro cs ps bs d xs) := by
  obtain ⟨hb, hp, hfit, hdv, hsame⟩ := splE_zero h0
  obtain ⟨hk0, hk4, hw0, hwd, hl, hm, hown⟩ := ckPl_zero hp
  have hxl := hxs.len
  have hcl := hcs.len
  have hpl' := hps.len
  have hbl := hbs.len
  have hb' : 4 ≤ (d : Int) ∧ (d : Int) ≤ 33 ∧ 1 ≤ xs.length ∧ xs.length ≤ 65535 := by
    unfold ckBlk at hb
    split at hb
    · cases hb
    · omega
  simp only [Int.toNat_natCast] at hl hm hfit hdv
  have ho32 : o ≤ 32 := by
    rcases (by omega : k = 0 ∨ k = 1 ∨ k = 2 ∨ k = 3) with rfl | rfl | rfl | rfl
    · have : kM 0 = 0 := rfl
      omega
    · have : kM 1 = 0 := rfl
      omega
    · have : kM 2 = 4 := rfl
      omega
    · have : kM 3 = 32 := rfl
      omega
  obtain ⟨hcd1, hcd⟩ := kOf_code (show k < 4 by omega) hl hm
  obtain ⟨cd, hcdE⟩ : ∃ cd, (kC k + (o : Int)).toNat = cd := ⟨_, rfl⟩
  rw [hcdE] at hcd
  have hcd2 : k ≠ 2 → k ≠ 3 → cd = k := fun g2 g3 => by
    rcases (by omega : k = 0 ∨ k = 1) with rfl | rfl
    · have e1 : kM 0 = 0 := rfl
      have e2 : kC 0 = 0 := rfl
      omega
    · have e1 : kM 1 = 0 := rfl
      have e2 : kC 1 = 1 := rfl
      omega
  have hcd3 : k = 2 → cd = 8 + o := fun g => by
    subst g
    have e2 : kC 2 = 8 := rfl
    omega
  have hcd4 : k = 3 → cd = 31 + o := fun g => by
    subst g
    have e2 : kC 3 = 31 := rfl
    omega
  have ho4 : k = 2 → o ≤ 4 := fun g => by
    subst g
    have e2 : kM 2 = 4 := rfl
    omega
  obtain ⟨dp, hdp⟩ : ∃ dp, d - wd = dp := ⟨_, rfl⟩
  have hdw : (d : Int) - (wd : Int) = (dp : Int) := by omega
  obtain ⟨pl, hpl⟩ : ∃ pl : Nat, plM (k : Int) o xs.length = (pl : Int) ∧ pl ≤ xs.length ∧ (k = 0 → pl = 1) ∧ (k = 1 → pl = n) ∧ (2 ≤ k → pl = o) := by
    unfold plM
    by_cases g0 : k = 0
    · exact ⟨1, by rw [if_pos (by omega)]; rfl, by omega, fun _ => rfl, fun g => by omega, fun g => by omega⟩
    · by_cases g1 : k = 1
      · exact ⟨xs.length, by rw [if_neg (by omega), if_pos (by omega)], Nat.le_refl _, fun g => by omega, fun _ => hxl.symm, fun g => by omega⟩
      · obtain ⟨_, _, O, _, _, e3, _, e4, _⟩ := splE_fine h0 (by omega)
        exact ⟨o, by rw [if_neg (by omega), if_neg (by omega)], by omega, fun g => by omega, fun g => by omega, fun _ => rfl⟩
  obtain ⟨hplE, hpln, hpl0, hpl1, hpl2⟩ := hpl
  obtain ⟨ys, hys⟩ : ∃ ys, xs.map (dvd wd) = ys := ⟨_, rfl⟩
  have hyl : ys.length = n := by rw [← hys, List.length_map, hxl]
  have hyS : ∀ y ∈ ys, isS dp y := fun y hy => by
    rw [← hys] at hy
    obtain ⟨x, hx, rfl⟩ := List.mem_map.1 hy
    rw [← hdp]
    exact isS_dvd (by omega) (hfit x hx)
  have hyE : k = 0 → ∀ j, (hj : j < ys.length) → ys[j] = ys.getD 0 0 := fun g j hj => by
    have hs := hsame (by omega)
    have h1 : ∀ x ∈ xs, x = xs.getD 0 0 := hs
    subst hys
    rw [List.getElem_map, h1 _ (List.getElem_mem _)]
    cases xs with
    | nil => simp at hj
    | cons x xt => rfl
  have HFine : Hid (2 ≤ k → (∃ m' ro' : Nat, m = (m' : Int) ∧ ro = (ro' : Int) ∧ Fine m' ro' o (2 ^ ro') (n / 2 ^ ro') ps bs (K.resV (tP k lp) (tS k ls) (tC k o cs) ys)) ∧ (K.resV (tP k lp) (tS k ls) (tC k o cs) ys).length + o = n ∧ K.okL (tP k lp) (tS k ls) (tC k o cs) ∧ K.resE (tP k lp) (tS k ls) (tC k o cs) ys = 0) := Lib.hid (fun g => by
    obtain ⟨m', ro', O, e1, e2, e3, hF, hlen, hok, hcl2, hE⟩ := splE_fine h0 (by omega)
    obtain rfl : o = O := by omega
    have hv : splV k o wd lp ls cs xs = K.resV (tP k lp) (tS k ls) (tC k o cs) (xs.map (dvd wd)) := if_pos (by omega)
    rw [hv, ← hxl] at hF
    rw [hv, ← hxl] at hlen
    rw [hys] at hF hlen
    rw [Int.toNat_natCast, hys] at hE
    exact ⟨⟨m', ro', e1, e2, hF⟩, hlen, hok, hE⟩)
  have HCh : Hid (chB k o wd lp ls m ro cs ps bs d xs = headB cd wd ++ ((ys.take pl).flatMap (numB dp) ++ ((if (k : Int) = 3 then linB lp.toNat ls cs else []) ++ (if 2 ≤ (k : Int) then blockB (n / 2 ^ ro.toNat) o (2 ^ ro.toNat) m.toNat ro.toNat ps bs (K.resV (tP k lp) (tS k ls) (tC k o cs) ys) else [])))) := Lib.hid (by
    unfold chB splV
    simp only [Int.toNat_natCast]
    rw [hcdE, hplE, hys, hdw, ← hxl]
    simp only [Int.toNat_natCast]
    by_cases g : 2 ≤ (k : Int)
    · rw [if_pos g, if_pos g, if_pos g]
    · rw [if_neg g, if_neg g])
  have HS := Lib.hid (shapeRef_any (w := w.alloc (.cells (spC k o wd lp ls (.slice Ac nc cc) m ro (.slice Ap np cp) (.slice Ab nb cb)) 56)) k o wd lp ls Ac nc cc m ro Ap Ab np cp nb cb d (by rw [hcl, hpl', hbl]; exact hp))
  have HDv := Lib.hid hdv
  have hfd : decide (fitsD d xs) = true := by simpa using hfit
  have HFd := Lib.hid hfd
  have Hyl := Lib.hid hyl
  have Hys := Lib.hid hys
  have HyS := Lib.hid hyS
  have HyE := Lib.hid hyE
  have Hxl := Lib.hid hxl
  have Hcl := Lib.hid hcl
  have Hc2 := Lib.hid hcd2
  have Hc3 := Lib.hid hcd3
  have Hc4 := Lib.hid hcd4
  have H4 := Lib.hid ho4
  have Hp0 := Lib.hid hpl0
  have Hp1 := Lib.hid hpl1
  have Hp2 := Lib.hid hpl2
  have hpn : pl ≤ n := by omega
  have hn1 : 1 ≤ n := by omega
  have hn0 : 0 < n := by omega
  have hn0i : (0 : Int) < (n : Int) := by omega
  have hwd33 : wd ≤ 33 := by omega
  have hdp33 : dp ≤ 33 := by omega
  have hd1 : 1 ≤ d := by omega
  have hd33 : d ≤ 33 := by omega
  have hd4i : ¬ (d : Int) < 4 := by omega
  have hd33i : ¬ 33 < (d : Int) := by omega
  have hn1i : ¬ (n : Int) < 1 := by omega
  have hn6i : ¬ 65535 < (n : Int) := by omega
  have hk4n : k < 4 := by omega
  have a0 := (Only.refl Nix w).alloc (.cells (spC k o wd lp ls (.slice Ac nc cc) m ro (.slice Ap np cp) (.slice Ab nb cb)) 56)
  have B0 := Box.new w 56 (spC k o wd lp ls (.slice Ac nc cc) m ro (.slice Ap np cp) (.slice Ab nb cb))
  obtain ⟨Wa, hWa⟩ : ∃ Wa, w.alloc (.cells (spC k o wd lp ls (.slice Ac nc cc) m ro (.slice Ap np cp) (.slice Ab nb cb)) 56) = Wa := ⟨_, rfl⟩
  rw [hWa] at a0 B0 HS
  have HX := Lib.hid (hxs.nix a0)
  have HC := Lib.hid (hcs.nix a0)
  have HP := Lib.hid (hps.nix a0)
  have HB := Lib.hid (hbs.nix a0)
  have HClt := Lib.hid (isrc_lt hcs)
  have HA := Lib.hid a0
  have HB0 := Lib.hid B0
  have Hws : Hid (w.heap.size < Wa.heap.size) := Lib.hid (by rw [← hWa]; simp)
  have d0 := B0.cell 0
  have d1 := B0.cell 1
  have d2 := B0.cell 2
  have d3 := B0.cell 3
  have d4 := B0.cell 4
  have d5 := B0.cell 5
  have d6 := B0.cell 6
  have d7 := B0.cell 7
  have d8 := B0.cell 8
  have d9 := B0.cell 9
  simp only [List.getElem?_toArray, List.getElem?_cons_zero, List.getElem?_cons_succ] at d0 d1 d2 d3 d4 d5 d6 d7 d8 d9
  clear hb hp hfit hdv hsame hk0 hk4 hw0 hwd hl hm hown hxl hcl hpl' hbl hb' hcd1 hcdE hcd2 hcd3 hcd4 ho4 hdp hplE hpln hpl0 hpl1 hpl2 hys hyl hyS hyE hfd a0 B0 hxs hcs hps hbs h0
  go_enter Tryz.func21, Tryz.ntmps21
  go_wp2_with fail
  refine (HS.out).mono ?_
  rintro e w1 ⟨rfl, o1⟩
  have HB1 := Lib.hid (HB0.out.only o1 (fun e => e))
  have HO1 := Lib.hid o1
  have c0 := HB1.out.cell 0
  have c1 := HB1.out.cell 1
  have c2 := HB1.out.cell 2
  have c3 := HB1.out.cell 3
  have c4 := HB1.out.cell 4
  have c5 := HB1.out.cell 5
  have c6 := HB1.out.cell 6
  have c7 := HB1.out.cell 7
  have c8 := HB1.out.cell 8
  have c9 := HB1.out.cell 9
  simp only [List.getElem?_toArray, List.getElem?_cons_zero, List.getElem?_cons_succ] at c0 c1 c2 c3 c4 c5 c6 c7 c8 c9
  clear o1 HS d0 d1 d2 d3 d4 d5 d6 d7 d8 d9
  have HLe := Lib.hid (less_any (w := w1) wd (by omega) A n c xs (HX.out.nix HO1.out) (by omega))
  go_wp2_with fail
  refine (HLe.out).mono ?_
  intro e w2 hls
  obtain ⟨A2, c2', he, hs2⟩ := hls.good HDv.out
  rw [← Hxl.out, Hys.out] at *
  subst he
  have HO2 := Lib.hid (HO1.out.trans hls.only)
  have HY2 := Lib.hid hs2
  have HF := Lib.hid (fitsRef_any (w := w2) d hd1 hd33 A n c xs (HX.out.nix HO2.out))
  rw [HFd.out] at HF
  clear c0 c1 c2 c3 c4 c5 c6 c7 c8 c9
  clear hs2 hls HLe
  go_wp2_with fail
  refine (HF.out).mono ?_
  rintro e w3 ⟨rfl, o3⟩
  have HO3 := Lib.hid (HO2.out.trans o3)
  have HY3 := Lib.hid (HY2.out.nix o3)
  have HX3 := Lib.hid (HX.out.nix HO3.out)
  have HB3 := Lib.hid (HB0.out.only HO3.out (fun e => e))
  have c0 := HB3.out.cell 0
  have c1 := HB3.out.cell 1
  have c2 := HB3.out.cell 2
  have c3 := HB3.out.cell 3
  have c4 := HB3.out.cell 4
  have c5 := HB3.out.cell 5
  have c6 := HB3.out.cell 6
  have c7 := HB3.out.cell 7
  have c8 := HB3.out.cell 8
  have c9 := HB3.out.cell 9
  simp only [List.getElem?_toArray, List.getElem?_cons_zero, List.getElem?_cons_succ] at c0 c1 c2 c3 c4 c5 c6 c7 c8 c9
  clear o3 HF HO2 HY2
  go_upto_if 68 with fail
  go_cut [12] from 68 to 71 (fun s12 wx => ∃ kq : Nat, s12 = iv kq ∧ (k = 2 → kq = cd) ∧ (k ≠ 2 → kq = k) ∧ wx = w3)
  case first =>
    by_cases g2 : k = 2
    · subst g2
      have g3 : (8 : Int) + (o : Int) = (cd : Int) := by have := Hc3.out rfl; omega
      go_wp2
      go_meet
      exact ⟨cd, rfl, fun _ => rfl, fun g => absurd rfl g, rfl⟩
    · have g2i : ((k : Int) == 2) = false := by simp; omega
      go_wp2
      go_meet
      exact ⟨k, rfl, fun g => absurd g g2, fun _ => rfl, rfl⟩
  case rest =>
  obtain ⟨kq, rfl, hc1, hc1', rfl⟩ := hcut
  have Hc1 := Lib.hid (And.intro hc1 hc1')
  clear hc1 hc1'
  go_upto_if 74 with fail
  go_cut [12] from 74 to 77 (fun s12 wx => s12 = iv (cd : Int) ∧ wx = wc)
  case first =>
    by_cases g2 : k = 3
    · subst g2
      have g3 : (31 : Int) + (o : Int) = (cd : Int) := by have := Hc4.out rfl; omega
      go_wp2
      go_meet
      exact ⟨rfl, rfl⟩
    · have g2i : ((k : Int) == 3) = false := by simp; omega
      have g3 : kq = cd := by
        by_cases g : k = 2
        · exact Hc1.out.1 g
        · rw [Hc1.out.2 g, Hc2.out g g2]
      subst g3
      go_wp2
      go_meet
      exact ⟨rfl, rfl⟩
  case rest =>
  obtain ⟨rfl, rfl⟩ := hcut
  clear Hc1
  generalize wc = w3 at *
  have HPt := Lib.hid (putB (u := w3) (base := w3.heap.size) (L := []) (World.ownsRow_nil _ _ _ _) (Nat.le_refl _) (by simp) 7 cd (by decide) (by omega))
  go_wp2_with fail
  refine (HPt.out).mono ?_
  rintro e w4 ⟨v4, rfl, hr4⟩
  have hR4 : RoI w3 w4 v4 (bitsN 7 cd) := RoI.then (L := []) ⟨World.ownsRow_nil _ _ _ _, Only.refl _ _⟩ hr4
  have HR4 := Lib.hid hR4
  have HB4 := Lib.hid (HB3.out.only hR4.only (fun e => e))
  clear c0 c1 c2 c3 c4 c5 c6 c7 c8 c9
  have c0 := HB4.out.cell 0
  have c1 := HB4.out.cell 1
  have c2 := HB4.out.cell 2
  have c3 := HB4.out.cell 3
  have c4 := HB4.out.cell 4
  have c5 := HB4.out.cell 5
  have c6 := HB4.out.cell 6
  have c7 := HB4.out.cell 7
  have c8 := HB4.out.cell 8
  have c9 := HB4.out.cell 9
  simp only [List.getElem?_toArray, List.getElem?_cons_zero, List.getElem?_cons_succ] at c0 c1 c2 c3 c4 c5 c6 c7 c8 c9
  clear hr4 hR4 HPt
  go_upto_if 85 with fail
  go_cut [13] from 85 to 99 (fun s13 wx => ∃ v, v = s13 ∧ RoI w3 wx v (headB cd wd))
  case first =>
    by_cases g2 : wd = 0
    · subst g2
      go_wp2_with (at_builtin; refine wpList_append_row rfl (.tmp 86) (.tmp 87) rfl v4 (bitsN 7 cd) rfl (owns_only HR4.out.row ((Only.refl _ _).alloc _) (fun _ _ e => e)) (HR4.out.only.alloc _) w4.heap.size (.slice (some ⟨w4.heap.size, 0, none⟩) 1 1) [0] rfl (bit_row w4 0) ?h63 ?res3)
      case h63 => rw [bitsN_len]; decide
      case res3 =>
        intro v5 w5 hr5 ho5
        have H5 : Hid (RoI w3 w5 v5 (headB cd 0)) := Lib.hid ⟨by rw [head_cut cd 0 hcd]; exact hr5, ho5⟩
        clear hr5 ho5
        go_wp2
        go_meet
        exact ⟨_, rfl, H5.out⟩
    · have g2i : ((wd : Int) == 0) = false := by simp; omega
      have g3 : (wd : Int) - 1 = ((wd - 1 : Nat) : Int) := by omega
      go_wp2_with (at_builtin; refine wpList_append_row rfl (.tmp 89) (.tmp 90) rfl v4 (bitsN 7 cd) rfl (owns_only HR4.out.row ((Only.refl _ _).alloc _) (fun _ _ e => e)) (HR4.out.only.alloc _) w4.heap.size (.slice (some ⟨w4.heap.size, 0, none⟩) 1 1) [1] rfl (bit_row w4 1) ?h64 ?res4)
      case h64 => rw [bitsN_len]; decide
      case res4 =>
        intro v5 w5 hr5 ho5
        have H5 : Hid (RoI w3 w5 v5 (bitsN 7 cd ++ [1])) := Lib.hid ⟨hr5, ho5⟩
        have HB5 := Lib.hid (HB3.out.only ho5 (fun e => e))
        obtain ⟨W, hW⟩ : ∃ W, wd - 1 = W := ⟨_, rfl⟩
        rw [hW] at g3
        have HUn := Lib.hid (unaB H5.out.row H5.out.only.size (by rw [List.length_append, bitsN_len]; simp) W (by omega))
        have HW : Hid (headB cd wd = bitsN 7 cd ++ [1] ++ (List.replicate W 0 ++ [1])) := Lib.hid (by
          rw [head_cut cd wd hcd, List.append_assoc]
          unfold wasB
          rw [if_neg g2, hW]
          rfl)
        clear c0 c1 c2 c3 c4 c5 c6 c7 c8 c9
        clear hr5 ho5 hW g2
        have c0 := HB5.out.cell 0
        have c1 := HB5.out.cell 1
        have c2 := HB5.out.cell 2
        have c3 := HB5.out.cell 3
        have c4 := HB5.out.cell 4
        have c5 := HB5.out.cell 5
        have c6 := HB5.out.cell 6
        have c7 := HB5.out.cell 7
        have c8 := HB5.out.cell 8
        have c9 := HB5.out.cell 9
        simp only [List.getElem?_toArray, List.getElem?_cons_zero, List.getElem?_cons_succ] at c0 c1 c2 c3 c4 c5 c6 c7 c8 c9
        go_wp2_with fail
        refine (HUn.out).mono ?_
        rintro e w6 ⟨v6, rfl, hr6⟩
        have H6 : Hid (RoI w3 w6 v6 (headB cd wd)) := Lib.hid (by rw [HW.out]; exact H5.out.then hr6)
        clear hr6
        go_wp2
        go_meet
        exact ⟨_, rfl, H6.out⟩
  case rest =>
  obtain ⟨v5, rfl, hR5⟩ := hcut
  generalize wc = w5 at *
  clear c0 c1 c2 c3 c4 c5 c6 c7 c8 c9
  have HR5 := Lib.hid hR5
  have HB5 := Lib.hid (HB3.out.only hR5.only (fun e => e))
  have c0 := HB5.out.cell 0
  have c1 := HB5.out.cell 1
  have c2 := HB5.out.cell 2
  have c3 := HB5.out.cell 3
  have c4 := HB5.out.cell 4
  have c5 := HB5.out.cell 5
  have c6 := HB5.out.cell 6
  have c7 := HB5.out.cell 7
  have c8 := HB5.out.cell 8
  have c9 := HB5.out.cell 9
  simp only [List.getElem?_toArray, List.getElem?_cons_zero, List.getElem?_cons_succ] at c0 c1 c2 c3 c4 c5 c6 c7 c8 c9
  clear hR5 HR4 HB4
  go_upto_if 104 with fail
  go_cut [15, 16] from 104 to 118 (fun s15 s16 wx => ∃ p1 : Nat, s15 = iv p1 ∧ (k = 0 → p1 = pl) ∧ (k ≠ 0 → p1 = o) ∧ Only Nix w5 wx)
  case first =>
    by_cases g2 : k = 0
    · subst g2
      go_wp2
      go_loopw [16] (fun s16 wr => Lp1 w5 n s16 wr) (fun s16 _ => n - (intOf s16).toNat)
      case atStart => exact ⟨0, Nat.zero_le _, rfl, Only.refl _ _⟩
      case round =>
        obtain ⟨j, hj, rfl, hO⟩ := hrel
        have HOr := Lib.hid hO
        clear hO
        by_cases hlt : j < n
        · have hlty : j < ys.length := by rw [Hyl.out]; exact hlt
          have hlt0 : 0 < ys.length := by rw [Hyl.out]; omega
          have hY := HY3.out.nix (HR5.out.only.trans HOr.out)
          obtain ⟨ad, hA, hxj⟩ := hY.at_ hlty
          subst hA
          obtain ⟨ad', hA, hx0⟩ := hY.at_ hlt0
          injection hA with hA
          subst hA
          have hft := HY3.out.fits _ (List.getElem_mem hlty)
          have hE1 := HyE.out (by simp) j hlty
          have hE0 := HyE.out (by simp) 0 hlt0
          rw [hE1] at hxj hft
          rw [hE0, Addr.add_zero'] at hx0
          have hlt2 : (j : Int) < (n : Int) := by omega
          generalize ys.getD 0 0 = y0 at *
          clear hlty hE1 hE0 hlt0 hY
          go_wp2_with fail
          go_quiet (fail)
          go_wp2
          go_roundw
          case rel => exact ⟨j + 1, by omega, by go_num, HOr.out.drewN _⟩
          case measure => simp [intOf]; omega
        · have hlt2 : ¬ (j : Int) < (n : Int) := by omega
          go_wp2
          go_meet
          exact ⟨1, rfl, fun _ => (Hp0.out (by simp)).symm, fun g => absurd rfl g, HOr.out⟩
    · have g2i : ((k : Int) == 0) = false := by simp; omega
      go_wp2
      go_meet
      exact ⟨o, rfl, fun g => absurd g g2, fun _ => rfl, Only.refl _ _⟩
  case rest =>
  obtain ⟨p1, rfl, hp1, hp1', hO6⟩ := hcut
  generalize wc = w6 at *
  have Hp3 := Lib.hid (And.intro hp1 hp1')
  have HR6 := Lib.hid (HR5.out.nix hO6)
  have HB6 := Lib.hid (HB5.out.only hO6 (fun e => e))
  clear c0 c1 c2 c3 c4 c5 c6 c7 c8 c9
  have c0 := HB6.out.cell 0
  have c1 := HB6.out.cell 1
  have c2 := HB6.out.cell 2
  have c3 := HB6.out.cell 3
  have c4 := HB6.out.cell 4
  have c5 := HB6.out.cell 5
  have c6 := HB6.out.cell 6
  have c7 := HB6.out.cell 7
  have c8 := HB6.out.cell 8
  have c9 := HB6.out.cell 9
  simp only [List.getElem?_toArray, List.getElem?_cons_zero, List.getElem?_cons_succ] at c0 c1 c2 c3 c4 c5 c6 c7 c8 c9
  clear hp1 hp1' hO6 HR5 HB5
  go_upto_if 121 with fail
  go_cut [15] from 121 to 123 (fun s15 wx => s15 = iv (pl : Int) ∧ wx = w6)
  case first =>
    by_cases g2 : k = 1
    · subst g2
      have g3 := Hp1.out rfl
      subst g3
      go_wp2
      go_meet
      exact ⟨rfl, rfl⟩
    · have g2i : ((k : Int) == 1) = false := by simp; omega
      have g3 : p1 = pl := by
        by_cases g : k = 0
        · exact Hp3.out.1 g
        · rw [Hp3.out.2 g, Hp2.out (by omega)]
      subst g3
      go_wp2
      go_meet
      exact ⟨rfl, rfl⟩
  case rest =>
  obtain ⟨rfl, rfl⟩ := hcut
  generalize wc = w6 at *
  clear Hp3
  have HB7 := Lib.hid (HB6.out.alloc (.cells #[iv lp, iv ls, .slice Ac nc cc] 53))
  have HH7 := Lib.hid (Box.new w6 53 #[iv lp, iv ls, .slice Ac nc cc])
  have HO7 := Lib.hid ((Only.refl Nix w6).alloc (.cells #[iv lp, iv ls, .slice Ac nc cc] 53))
  obtain ⟨V, hV⟩ : ∃ V, w6.alloc (.cells #[iv lp, iv ls, .slice Ac nc cc] 53) = V := ⟨_, rfl⟩
  have HVs : Hid (V.heap.size = w6.heap.size + 1) := Lib.hid (by rw [← hV]; simp)
  rw [hV] at HB7 HH7 HO7
  have e0 := HB7.out.cell 0
  have e1 := HB7.out.cell 1
  have e2 := HB7.out.cell 2
  have e3 := HB7.out.cell 3
  have e4 := HB7.out.cell 4
  have e5 := HB7.out.cell 5
  have e6 := HB7.out.cell 6
  have e7 := HB7.out.cell 7
  have e8 := HB7.out.cell 8
  have e9 := HB7.out.cell 9
  simp only [List.getElem?_toArray, List.getElem?_cons_zero, List.getElem?_cons_succ] at e0 e1 e2 e3 e4 e5 e6 e7 e8 e9
  go_upto_if 128 with fail
  clear hV e0 e1 e2 e3 e4 e5 e6 e7 e8 e9
  clear c0 c1 c2 c3 c4 c5 c6 c7 c8 c9
  have c0 := HB7.out.cell 0
  have c1 := HB7.out.cell 1
  have c2 := HB7.out.cell 2
  have c3 := HB7.out.cell 3
  have c4 := HB7.out.cell 4
  have c5 := HB7.out.cell 5
  have c6 := HB7.out.cell 6
  have c7 := HB7.out.cell 7
  have c8 := HB7.out.cell 8
  have c9 := HB7.out.cell 9
  simp only [List.getElem?_toArray, List.getElem?_cons_zero, List.getElem?_cons_succ] at c0 c1 c2 c3 c4 c5 c6 c7 c8 c9
  go_cut [17] from 128 to 131 (fun s17 wx => s17 = .pointer (some ⟨w6.heap.size, 0, none⟩) ∧ HwI w6 (tP k lp) (tS k ls) (tC k o cs) v5 wx)
  case first =>
    by_cases g2 : k = 2
    · subst g2
      have HCo := Lib.hid (coefs_any (w := V) o (H4.out rfl))
      go_wp2_with fail
      refine (HCo.out).mono ?_
      rintro e w8 ⟨A8, n8, c8', rfl, hs8, o8, hg8⟩
      have HG8 := Lib.hid hg8
      have HS8 := Lib.hid hs8
      have HH8 := Lib.hid (HH7.out.only o8 (fun e => e))
      have HO8 := Lib.hid (HO7.out.trans o8)
      clear c0 c1 c2 c3 c4 c5 c6 c7 c8 c9
      clear hs8 o8 hg8
      go_wp2_with (refine wpList_store_row rfl 53 (.tmp 17) (.tmp 131) rfl rfl w6.heap.size 53 #[iv lp, iv ls, .slice Ac nc cc] #[iv 4, iv 0, .slice A8 n8 c8'] rfl rfl HH8.out Tryz.size_rlin rfl (by simp [Value.oneCell']) ?st)
      case st =>
        intro w9 hb9 ho9
        have H9 : Hid (HwI w6 (tP (2 : Nat) lp) (tS (2 : Nat) ls) (tC (2 : Nat) o cs) v5 w9) := Lib.hid (by
          have e1 : tP ((2 : Nat) : Int) lp = 4 := rfl
          have e2 : tS ((2 : Nat) : Int) ls = 0 := rfl
          have e3 : tC ((2 : Nat) : Int) (o : Int) cs = fx o := by unfold tC; rw [if_pos (by omega), Int.toNat_natCast]
          rw [e1, e2, e3]
          refine ⟨⟨A8, n8, c8', hb9, HS8.out.only ho9 (fun i _ hF ad n c e _ => ?_), fun ad e _ hv => ?_⟩, HO8.out.then ho9 (fun i e => .inr (by cases e; exact Nat.le_refl _))⟩
          · cases hF
            injection e with e1
            have := HG8.out ad e1
            have := HVs.out
            omega
          · have h1 := owns_lt HR6.out.row hv
            have := HG8.out ad e
            have := HVs.out
            omega)
        clear hb9 ho9
        go_wp2
        go_meet
        exact ⟨rfl, H9.out⟩
    · have g2i : ((k : Int) == 2) = false := by simp; omega
      have H9 : Hid (HwI w6 (tP k lp) (tS k ls) (tC k o cs) v5 V) := Lib.hid (by
        have e1 : tP (k : Int) lp = lp := if_neg (by omega)
        have e2 : tS (k : Int) ls = ls := if_neg (by omega)
        have e3 : tC (k : Int) (o : Int) cs = cs := if_neg (by omega)
        rw [e1, e2, e3]
        refine ⟨⟨Ac, nc, cc, HH7.out, HC.out.nix ((HO3.out.trans HR6.out.only).trans HO7.out), fun ad e hn hv => ?_⟩, HO7.out⟩
        have h1 := HClt.out ad e hn
        have h2 := (HR6.out.row.lt _ hv).1
        have := HO3.out.size
        have := Hws.out
        omega)
      go_wp2
      go_meet
      exact ⟨rfl, H9.out⟩
  case rest =>
  obtain ⟨rfl, hH8⟩ := hcut
  generalize wc = w8 at *
  have HH8 := Lib.hid hH8
  have HR8 := Lib.hid (HR6.out.nix hH8.only)
  have HB8 := Lib.hid (HB6.out.only hH8.only (fun e => e))
  clear c0 c1 c2 c3 c4 c5 c6 c7 c8 c9
  have c0 := HB8.out.cell 0
  have c1 := HB8.out.cell 1
  have c2 := HB8.out.cell 2
  have c3 := HB8.out.cell 3
  have c4 := HB8.out.cell 4
  have c5 := HB8.out.cell 5
  have c6 := HB8.out.cell 6
  have c7 := HB8.out.cell 7
  have c8 := HB8.out.cell 8
  have c9 := HB8.out.cell 9
  simp only [List.getElem?_toArray, List.getElem?_cons_zero, List.getElem?_cons_succ] at c0 c1 c2 c3 c4 c5 c6 c7 c8 c9
  clear hH8 HB7 HH7 HO7 HVs
  go_upto_if 134 with fail
  go_cut [8] from 134 to 148 (fun s8 wx => ∃ v, s8 = v ∧ HwI w6 (tP k lp) (tS k ls) (tC k o cs) v5 wx)
  case first =>
    by_cases g2 : k < 2
    · have g2i : ¬ 1 < (k : Int) := by omega
      go_wp2
      go_meet
      exact ⟨_, rfl, HH8.out⟩
    · have g2i : 1 < (k : Int) := by omega
      obtain ⟨⟨m', ro', hm', hro', hF⟩, hlen, hok, hE⟩ := HFine.out (by omega)
      obtain ⟨Ah, nh, ch, hb8, hs8, hap⟩ := HH8.out.ex
      have HCk := Lib.hid (K.checkRef_any (w := w8) (tP k lp) (tS k ls) Ah nh ch (tC k o cs) hs8)
      have hck : K.ckL (tP k lp) (tS k ls) (tC k o cs) = 0 := if_pos hok
      rw [hck] at HCk
      have HC2 : Hid (∀ u, Only Nix w8 u → Calls Tryz.prog 51 #[planV m ro (.slice Ap np cp) (.slice Ab nb cb), iv n, iv o] u fun e w' => e = .returned (iv 0) ∧ Only Nix u w') := Lib.hid (fun u hu => by
        have hk := checkRef_any (w := u) m ro (n : Int) (o : Int) Ap Ab np nb cp cb ps bs (HP.out.nix ((HO3.out.trans HR8.out.only).trans hu)) (HB.out.nix ((HO3.out.trans HR8.out.only).trans hu))
        have hz := hF.sizeE
        have hC : ckC (m' : Int) (ro' : Int) ps bs (((K.resV (tP k lp) (tS k ls) (tC k o cs) ys).length : Int) + (o : Int)) o = 0 := by
          apply Classical.byContradiction
          intro hn
          unfold sizeE at hz
          rw [if_pos hn] at hz
          exact hn hz
        rw [show (((K.resV (tP k lp) (tS k ls) (tC k o cs) ys).length : Int) + (o : Int)) = (n : Int) by omega, ← hm', ← hro'] at hC
        rw [hC] at hk
        exact hk)
      have y0 := hb8.cell 0
      have y1 := hb8.cell 1
      have y2 := hb8.cell 2
      simp only [List.getElem?_toArray, List.getElem?_cons_zero, List.getElem?_cons_succ] at y0 y1 y2
      clear hm' hro' hF hlen hok hE hs8 hap hb8 hck
      go_wp2_with fail
      refine (HCk.out).mono ?_
      rintro e w9 ⟨rfl, o9⟩
      have HO9 := Lib.hid o9
      have HB9 := Lib.hid (HB8.out.only o9 (fun e => e))
      clear c0 c1 c2 c3 c4 c5 c6 c7 c8 c9
      clear y0 y1 y2
      have c0 := HB9.out.cell 0
      have c1 := HB9.out.cell 1
      have c2 := HB9.out.cell 2
      have c3 := HB9.out.cell 3
      have c4 := HB9.out.cell 4
      have c5 := HB9.out.cell 5
      have c6 := HB9.out.cell 6
      have c7 := HB9.out.cell 7
      have c8 := HB9.out.cell 8
      have c9 := HB9.out.cell 9
      simp only [List.getElem?_toArray, List.getElem?_cons_zero, List.getElem?_cons_succ] at c0 c1 c2 c3 c4 c5 c6 c7 c8 c9
      have HC3 := Lib.hid (HC2.out w9 o9)
      clear o9
      go_wp2_with fail
      refine (HC3.out).mono ?_
      rintro e w10 ⟨rfl, o10⟩
      have H10 := Lib.hid (HH8.out.nix (HO9.out.trans o10))
      clear o10
      go_wp2
      go_meet
      exact ⟨_, rfl, H10.out⟩
  case rest =>
  obtain ⟨v8, rfl, hH9⟩ := hcut
  generalize wc = w9 at *
  have HR9 := Lib.hid (HR6.out.nix hH9.only)
  have HB9 := Lib.hid (HB6.out.only hH9.only (fun e => e))
  obtain ⟨⟨Ah, nh, ch, hb9, hs9, hap⟩, hO9⟩ := hH9
  have HH9 := Lib.hid hb9
  have HS9 := Lib.hid hs9
  have HAp := Lib.hid hap
  clear c0 c1 c2 c3 c4 c5 c6 c7 c8 c9
  have c0 := HB9.out.cell 0
  have c1 := HB9.out.cell 1
  have c2 := HB9.out.cell 2
  have c3 := HB9.out.cell 3
  have c4 := HB9.out.cell 4
  have c5 := HB9.out.cell 5
  have c6 := HB9.out.cell 6
  have c7 := HB9.out.cell 7
  have c8 := HB9.out.cell 8
  have c9 := HB9.out.cell 9
  simp only [List.getElem?_toArray, List.getElem?_cons_zero, List.getElem?_cons_succ] at c0 c1 c2 c3 c4 c5 c6 c7 c8 c9
  clear hb9 hs9 hap hO9 HH8 HR8 HB8
  have htl : (ys.take pl).length = pl := by rw [List.length_take, Hyl.out]; omega
  have Htl := Lib.hid htl
  have HeadL : Hid ((headB cd wd).length ≤ 50) := Lib.hid (by
    rw [head_cut cd wd hcd, List.length_append, bitsN_len]
    have := wasB_len wd
    omega)
  have HSm : Hid (∀ j, ((ys.take pl).take j).flatMap (numB dp) = ((ys.take pl).take j).flatMap (numB dp) ∧ (((ys.take pl).take j).flatMap (numB dp)).length ≤ 3300) := Lib.hid (fun j => ⟨rfl, by
    refine Nat.le_trans (numsB_take dp (ys.take pl) j) ?_
    rw [htl]
    exact Nat.mul_le_mul hdp33 (by omega : pl ≤ 100)⟩)
  clear htl
  go_wp2
  go_loopw [13, 18] (fun s13 s18 wr => Sp2 w9 w3 v5 (headB cd wd) (ys.take pl) dp s13 s18 wr) (fun _ s18 _ => pl - (intOf s18).toNat)
  case atStart => exact ⟨0, v5, Nat.zero_le _, rfl, rfl, by simpa using RowTo.same HR9.out.row⟩
  case round =>
    obtain ⟨j, v, hj, rfl, rfl, hr⟩ := hrel
    rw [Htl.out] at hj
    have HRr := Lib.hid hr
    have HRo := Lib.hid (HR9.out.then hr)
    clear hr
    by_cases hlt : j < pl
    · have hlty : j < ys.length := by rw [Hyl.out]; omega
      have hltt : j < (ys.take pl).length := by rw [Htl.out]; exact hlt
      obtain ⟨ad, rfl, hxj⟩ := (HY3.out.nix HRo.out.only).at_ hlty
      have hft := HY3.out.fits _ (List.getElem_mem hlty)
      have hS := HyS.out _ (List.getElem_mem hlty)
      have hE0 := List.take_succ_eq_append_getElem hltt
      rw [List.getElem_take] at hE0
      have hlt2 : (j : Int) < (pl : Int) := by omega
      generalize ys[j] = y at *
      have HE := Lib.hid hE0
      have HPs := Lib.hid (putS HRo.out.row HRo.out.only.size (by
        rw [List.length_append]
        have := HeadL.out
        have := (HSm.out j).2
        omega) dp y (by omega) hS)
      clear hE0 hlty hltt hS
      go_wp2_with fail
      refine (HPs.out).mono ?_
      rintro e w10 ⟨v10, rfl, hr10⟩
      have H10 : Hid (RowTo w9 w3.heap.size v5 v10 (headB cd wd ++ ((ys.take pl).take (j + 1)).flatMap (numB dp)) w10) := Lib.hid (by
        rw [HE.out, List.flatMap_append, List.flatMap_singleton, ← List.append_assoc]
        exact RowTo.on HRr.out hr10)
      clear hr10
      go_wp2
      go_roundw
      case rel => exact ⟨j + 1, v10, by rw [Htl.out]; omega, by go_num, rfl, H10.out⟩
      case measure => simp [intOf]; omega
    · have hlt2 : ¬ (j : Int) < (pl : Int) := by omega
      obtain rfl : j = pl := by omega
      obtain ⟨PB, hPB⟩ : ∃ PB, (ys.take j).flatMap (numB dp) = PB := ⟨_, rfl⟩
      have htt : (ys.take j).take j = ys.take j := List.take_of_length_le (by rw [Htl.out]; exact Nat.le_refl _)
      rw [htt, hPB] at HRr HRo
      rw [hPB] at HCh
      have HPL : Hid (PB.length ≤ 3300) := Lib.hid (by rw [← hPB, ← htt]; exact (HSm.out j).2)
      have HB10 := Lib.hid (box_row HR9.out.row HRr.out HB9.out (by decide))
      have HH10 := Lib.hid (box_row HR9.out.row HRr.out HH9.out (by decide))
      have HS10 : Hid (ISrc wr (.slice Ah nh ch) (tC k o cs)) := Lib.hid (HS9.out.only HRr.out.2.1 (fun i _ hF ad n c e hn => by
        intro hi
        injection e with e1 e2 _
        subst e2
        exact HAp.out ad e1 hn (by rw [hi]; exact hF)))
      clear c0 c1 c2 c3 c4 c5 c6 c7 c8 c9
      clear hPB htt HSm
      have c0 := HB10.out.cell 0
      have c1 := HB10.out.cell 1
      have c2 := HB10.out.cell 2
      have c3 := HB10.out.cell 3
      have c4 := HB10.out.cell 4
      have c5 := HB10.out.cell 5
      have c6 := HB10.out.cell 6
      have c7 := HB10.out.cell 7
      have c8 := HB10.out.cell 8
      have c9 := HB10.out.cell 9
      simp only [List.getElem?_toArray, List.getElem?_cons_zero, List.getElem?_cons_succ] at c0 c1 c2 c3 c4 c5 c6 c7 c8 c9
      by_cases g2 : k < 2
      · have g2i : (k : Int) < 2 := by omega
        have HFin : Hid (Only Nix w wr ∧ Bitrow wr w.heap.size v (chB k o wd lp ls m ro cs ps bs d xs)) := Lib.hid ⟨(HA.out.trans HO3.out).trans HRo.out.only, by
          rw [HCh.out, if_neg (by omega), if_neg (by omega), List.append_nil, List.append_nil]
          exact row_down HRo.out.row (by have := HO3.out.size; have := Hws.out; omega)⟩
        go_wp2
        go_ret2
        exact ⟨_, rfl, HFin.out⟩
      · have g2i : ¬ (k : Int) < 2 := by omega
        obtain ⟨⟨m', ro', hm', hro', hF⟩, hlen, hok, hE⟩ := HFine.out (by omega)
        have HFi := Lib.hid (And.intro hF (And.intro hlen (And.intro hok hE)))
        have Hmm := Lib.hid (And.intro hm' hro')
        clear hF hlen hok hE hm' hro'
        go_upto_if 170 with fail
        go_cut [13, 19] from 170 to 204 (fun s13 s19 wx => ∃ v2, v2 = s13 ∧ RowTo w9 w3.heap.size v5 v2 ((headB cd wd ++ PB) ++ (if (k : Int) = 3 then linB lp.toNat ls cs else [])) wx)
        case first =>
          by_cases g3 : k = 3
          · subst g3
            have e1 : tP ((3 : Nat) : Int) lp = lp := rfl
            have e2 : tS ((3 : Nat) : Int) ls = ls := rfl
            have e3 : tC ((3 : Nat) : Int) (o : Int) cs = cs := rfl
            rw [e1, e2] at HH10
            rw [e3] at HS10
            have hok := HFi.out.2.2.1
            rw [e1, e2, e3] at hok
            obtain ⟨⟨_, p1, p2, p3, p4⟩, p5⟩ := hok
            obtain ⟨P, hP⟩ := Int.eq_ofNat_of_zero_le (show 0 ≤ lp by omega)
            have hP : lp = (P : Int) := hP
            subst hP
            have hP1 : (P : Int) - 1 = ((P - 1 : Nat) : Int) := by omega
            have hIs : ∀ x ∈ cs, isS P x := fun x hx => (isS_isC P (by omega) x).1 (p5 x hx)
            have hIS := Lib.hid hIs
            have hS5 : isS 5 ls := by
              unfold isS
              rw [if_neg (by omega)]
              have : (2 : Int) ^ (5 - 1) = 16 := by decide
              omega
            obtain ⟨Q, hQ⟩ : ∃ Q, P - 1 = Q := ⟨_, rfl⟩
            rw [hQ] at hP1
            have hQ14 : Q ≤ 14 := by omega
            have hP15 : P ≤ 15 := by omega
            have HQ := Lib.hid hQ
            have hchl := HS10.out.len
            have hcl2 := Hcl.out
            have hnco : cs.length ≤ 32 := by
              have := (HFi.out.2.2.1).1.1
              rw [e3] at this
              exact this
            have Hchl := Lib.hid hchl
            have hnh32 : nh ≤ 32 := by rw [hchl]; exact hnco
            have HXl : Hid ((headB cd wd ++ PB).length ≤ 3350) := Lib.hid (by
              rw [List.length_append]
              have := HeadL.out
              have := HPL.out
              omega)
            obtain ⟨X, hX⟩ : ∃ X, headB cd wd ++ PB = X := ⟨_, rfl⟩
            rw [hX] at HXl HRr HRo
            have HXe := Lib.hid hX
            have hQ16 : Q < 2 ^ 4 := by
              have : (2 : Nat) ^ 4 = 16 := by decide
              omega
            have HPt1 := Lib.hid (putB HRo.out.row HRo.out.only.size (by have := HXl.out; omega) 4 Q (by decide) hQ16)
            have x0 := HH10.out.cell 0
            have x1 := HH10.out.cell 1
            have x2 := HH10.out.cell 2
            simp only [List.getElem?_toArray, List.getElem?_cons_zero, List.getElem?_cons_succ] at x0 x1 x2
            clear e1 e2 e3 p1 p2 p3 p4 p5 hIs hQ hchl hcl2 hX
            go_wp2_with fail
            refine (HPt1.out).mono ?_
            rintro e w11 ⟨v11, rfl, hr11⟩
            have HR11 := Lib.hid (RowTo.on HRr.out hr11)
            have HO11 := Lib.hid (HR9.out.then HR11.out)
            have HH11 := Lib.hid (box_row HRr.out.1 hr11 HH10.out (by decide))
            have HPt2 := Lib.hid (putS HO11.out.row HO11.out.only.size (by
              rw [List.length_append, bitsN_len]
              have := HXl.out
              omega) 5 ls (by decide) hS5)
            clear c0 c1 c2 c3 c4 c5 c6 c7 c8 c9
            clear x0 x1 x2 hr11
            have x0 := HH11.out.cell 0
            have x1 := HH11.out.cell 1
            have x2 := HH11.out.cell 2
            simp only [List.getElem?_toArray, List.getElem?_cons_zero, List.getElem?_cons_succ] at x0 x1 x2
            go_wp2_with fail
            refine (HPt2.out).mono ?_
            rintro e w12 ⟨v12, rfl, hr12⟩
            have HR12 := Lib.hid (RowTo.on HR11.out hr12)
            clear x0 x1 x2 hr12
            go_wp2
            go_loopw [13, 19] (fun s13 s19 wr => Sp3 w9 w3 v5 (X ++ bitsN 4 Q ++ numB 5 ls) cs P s13 s19 wr) (fun _ s19 _ => nh - (intOf s19).toNat)
            case atStart => exact ⟨0, v12, Nat.zero_le _, rfl, rfl, by simpa using HR12.out⟩
            case round =>
              obtain ⟨j, v, hj, rfl, rfl, hr⟩ := hrel
              rw [← Hchl.out] at hj
              have HRj := Lib.hid hr
              have HOj := Lib.hid (HR9.out.then hr)
              have HHj := Lib.hid (box_row HR9.out.row hr HH9.out (by decide))
              have e1 : tP ((3 : Nat) : Int) (P : Int) = (P : Int) := rfl
              have e2 : tS ((3 : Nat) : Int) ls = ls := rfl
              rw [e1, e2] at HHj
              have hsj : ISrc wr (.slice Ah nh ch) cs := HS9.out.only hr.2.1 (fun i _ hF ad n c e hn => by
                intro hi
                injection e with e1 e2 _
                subst e2
                exact HAp.out ad e1 hn (by rw [hi]; exact hF))
              have HSj := Lib.hid hsj
              clear hr hsj e1 e2
              by_cases hlt : j < nh
              · have hltc : j < cs.length := by rw [← Hchl.out]; exact hlt
                obtain ⟨ad, rfl, hxj⟩ := HSj.out.at_ hltc
                have hft := HSj.out.fits _ (List.getElem_mem hltc)
                have hS := hIS.out _ (List.getElem_mem hltc)
                have HE := Lib.hid (List.take_succ_eq_append_getElem hltc)
                have hlt2 : (j : Int) < (nh : Int) := by omega
                generalize cs[j] = x at *
                have hjl := numsB_take P cs j
                have hjl2 : P * cs.length ≤ 15 * 32 := Nat.mul_le_mul hP15 hnco
                have x0 := HHj.out.cell 0
                have x1 := HHj.out.cell 1
                have x2 := HHj.out.cell 2
                simp only [List.getElem?_toArray, List.getElem?_cons_zero, List.getElem?_cons_succ] at x0 x1 x2
                have hbl : (X ++ bitsN 4 Q ++ numB 5 ls ++ (cs.take j).flatMap (numB P)).length ≤ 100000000 := by
                  rw [List.length_append, List.length_append, List.length_append, bitsN_len, numB_len]
                  have := HXl.out
                  omega
                have HPs : Hid (∀ u, Only Nix wr u → Calls Tryz.prog 48 #[v, iv P, iv x, .bool true] u fun e w' => ∃ v', e = .returned (.tuple #[v', iv 0]) ∧ RowTo w9 w3.heap.size v5 v' (X ++ bitsN 4 Q ++ numB 5 ls ++ (cs.take j).flatMap (numB P) ++ numB P x) w') := Lib.hid (fun u hu => by
                  have hou := HOj.out.nix hu
                  have hru : RowTo w9 w3.heap.size v5 v (X ++ bitsN 4 Q ++ numB 5 ls ++ (cs.take j).flatMap (numB P)) u := ⟨hou.row, HRj.out.2.1.trans hu.nix, HRj.out.2.2⟩
                  refine (putS hou.row hou.only.size hbl P x (by omega) hS).mono ?_
                  rintro e w' ⟨v', he, hr'⟩
                  exact ⟨v', he, RowTo.on hru hr'⟩)
                clear hltc hS hjl hjl2 hbl
                have hX2 : Hid (wr.cell? (ad.add j) = some (iv x)) := Lib.hid hxj
                have HX0 := Lib.hid x0
                have HX1 := Lib.hid x2
                go_wp2_with fail
                clear x0 x1 x2 hxj
                have noOutPU : ∀ j s, j < 13 → (([some 194, some 195, some 196, some 197, some 198, some 199, some 200, some 201, some 202, some 193, some 203, some 204, some 13] : List (Option Nat)).all fun d => d != some s) = true → ([some 194, some 195, some 196, some 197, some 198, some 199, some 200, some 201, some 202, some 193, some 203, some 204, some 13] : List (Option Nat)).getD j none ≠ some s := by
                  intro j s hj ha e
                  rw [List.getD_eq_getElem?_getD, List.getElem?_eq_getElem (by exact hj), Option.getD_some] at e
                  have := List.all_eq_true.1 ha _ (List.getElem_mem (by exact hj))
                  rw [e] at this
                  simp at this
                refine region_gho (by kernel_rfl) (fun k0 => ([some 194, some 195, some 196, some 197, some 198, some 199, some 200, some 201, some 202, some 193, some 203, some 204, some 13] : List (Option Nat)).getD k0 none) (fun k0 => ([some (v), some (.pointer (some ⟨w6.heap.size, 0, none⟩)), some (iv P), some (.pointer (some ⟨w6.heap.size, 2, none⟩)), some (.slice (some ad) nh ch), some (iv j), some (.pointer (some (ad.add j))), some (iv x), none, none, none, none, none] : List (Option Value)).getD k0 none) (PutW wr (fun v13 u => RowTo w9 w3.heap.size v5 v13 (X ++ bitsN 4 Q ++ numB 5 ls ++ (cs.take j).flatMap (numB P) ++ numB P x) u) pwF) 226 13 rfl (by kernel_rfl) (by kernel_rfl) rfl (by kernel_rfl) (by kernel_rfl) ⟨fun _ => (Only.refl Nix _).drew, (fun e => by cases e)⟩ ?stepsPU (fun vs => [(194, vs 0), (195, vs 1), (196, vs 2), (197, vs 3), (198, vs 4), (199, vs 5), (200, vs 6), (201, vs 7), (202, vs 8), (193, vs 9), (203, vs 10), (204, vs 11), (13, vs 12)]) (fun vs => rfl) ?donePU
                case stepsPU =>
                  refine ⟨?_, ?_, ?_, ?_, ?_, ?_, ?_, ?_, ?_, ?_, ?_, ?_, ?_, trivial⟩
                  · intro L vs A' u hW hL0 hnd K' hK
                    have n8 : L 8 = false := notYet hW.closed (j := 8) (by rfl) (k := 0) (by kernel_rfl) hL0
                    have n9 : L 9 = false := notYet hW.closed (j := 9) (by rfl) (k := 8) (by kernel_rfl) n8
                    have n10 : L 10 = false := notYet hW.closed (j := 10) (by rfl) (k := 9) (by kernel_rfl) n9
                    have n12 : L 12 = false := notYet hW.closed (j := 12) (by rfl) (k := 10) (by kernel_rfl) n10
                    have r13 : A'.tmps[13]? = some (v) := (hW.fresh 12 13 (by decide) n12 rfl).trans rfl
                    go_simp
                    exact hK _ _ (fun v0 e => by cases e; rfl) (hW.wi.lo n8 (by decide) (Only.refl _ _))
                  · intro L vs A' u hW hL0 hnd K' hK
                    have r17 : A'.tmps[17]? = some (.pointer (some ⟨w6.heap.size, 0, none⟩)) := (hW.out 17 (fun j hj => noOutPU j 17 hj (by kernel_rfl))).trans rfl
                    have n2 : L 2 = false := notYet hW.closed (j := 2) (by rfl) (k := 1) (by kernel_rfl) hL0
                    have n8 : L 8 = false := notYet hW.closed (j := 8) (by rfl) (k := 2) (by kernel_rfl) n2
                    go_simp
                    exact hK _ _ (fun v0 e => by cases e; rfl) (hW.wi.lo n8 (by decide) (Only.refl _ _))
                  · intro L vs A' u hW hL0 hnd K' hK
                    have r195 : A'.tmps[195]? = some (.pointer (some ⟨w6.heap.size, 0, none⟩)) := by
                      have h := hW.val 1 195 (by decide) (hnd 1 (by kernel_rfl)) rfl
                      rw [hW.known 1 _ (hnd 1 (by kernel_rfl)) rfl] at h
                      exact h
                    have n8 : L 8 = false := notYet hW.closed (j := 8) (by rfl) (k := 2) (by kernel_rfl) hL0
                    have c0 := cell_keep (hW.wi.low n8) HX0.out
                    go_simp
                    exact hK _ _ (fun v0 e => by cases e; rfl) (hW.wi.lo n8 (by decide) (Only.refl _ _))
                  · intro L vs A' u hW hL0 hnd K' hK
                    have r17 : A'.tmps[17]? = some (.pointer (some ⟨w6.heap.size, 0, none⟩)) := (hW.out 17 (fun j hj => noOutPU j 17 hj (by kernel_rfl))).trans rfl
                    have n4 : L 4 = false := notYet hW.closed (j := 4) (by rfl) (k := 3) (by kernel_rfl) hL0
                    have n6 : L 6 = false := notYet hW.closed (j := 6) (by rfl) (k := 4) (by kernel_rfl) n4
                    have n7 : L 7 = false := notYet hW.closed (j := 7) (by rfl) (k := 6) (by kernel_rfl) n6
                    have n8 : L 8 = false := notYet hW.closed (j := 8) (by rfl) (k := 7) (by kernel_rfl) n7
                    go_simp
                    exact hK _ _ (fun v0 e => by cases e; rfl) (hW.wi.lo n8 (by decide) (Only.refl _ _))
                  · intro L vs A' u hW hL0 hnd K' hK
                    have r197 : A'.tmps[197]? = some (.pointer (some ⟨w6.heap.size, 2, none⟩)) := by
                      have h := hW.val 3 197 (by decide) (hnd 3 (by kernel_rfl)) rfl
                      rw [hW.known 3 _ (hnd 3 (by kernel_rfl)) rfl] at h
                      exact h
                    have n6 : L 6 = false := notYet hW.closed (j := 6) (by rfl) (k := 4) (by kernel_rfl) hL0
                    have n7 : L 7 = false := notYet hW.closed (j := 7) (by rfl) (k := 6) (by kernel_rfl) n6
                    have n8 : L 8 = false := notYet hW.closed (j := 8) (by rfl) (k := 7) (by kernel_rfl) n7
                    have c2 := cell_keep (hW.wi.low n8) HX1.out
                    go_simp
                    exact hK _ _ (fun v0 e => by cases e; rfl) (hW.wi.lo n8 (by decide) (Only.refl _ _))
                  · intro L vs A' u hW hL0 hnd K' hK
                    have r19 : A'.tmps[19]? = some (iv j) := (hW.out 19 (fun j hj => noOutPU j 19 hj (by kernel_rfl))).trans rfl
                    have n6 : L 6 = false := notYet hW.closed (j := 6) (by rfl) (k := 5) (by kernel_rfl) hL0
                    have n7 : L 7 = false := notYet hW.closed (j := 7) (by rfl) (k := 6) (by kernel_rfl) n6
                    have n8 : L 8 = false := notYet hW.closed (j := 8) (by rfl) (k := 7) (by kernel_rfl) n7
                    go_simp
                    exact hK _ _ (fun v0 e => by cases e; rfl) (hW.wi.lo n8 (by decide) (Only.refl _ _))
                  · intro L vs A' u hW hL0 hnd K' hK
                    have r198 : A'.tmps[198]? = some (.slice (some ad) nh ch) := by
                      have h := hW.val 4 198 (by decide) (hnd 4 (by kernel_rfl)) rfl
                      rw [hW.known 4 _ (hnd 4 (by kernel_rfl)) rfl] at h
                      exact h
                    have r199 : A'.tmps[199]? = some (iv j) := by
                      have h := hW.val 5 199 (by decide) (hnd 5 (by kernel_rfl)) rfl
                      rw [hW.known 5 _ (hnd 5 (by kernel_rfl)) rfl] at h
                      exact h
                    have n7 : L 7 = false := notYet hW.closed (j := 7) (by rfl) (k := 6) (by kernel_rfl) hL0
                    have n8 : L 8 = false := notYet hW.closed (j := 8) (by rfl) (k := 7) (by kernel_rfl) n7
                    go_simp
                    exact hK _ _ (fun v0 e => by cases e; rfl) (hW.wi.lo n8 (by decide) (Only.refl _ _))
                  · intro L vs A' u hW hL0 hnd K' hK
                    have r200 : A'.tmps[200]? = some (.pointer (some (ad.add j))) := by
                      have h := hW.val 6 200 (by decide) (hnd 6 (by kernel_rfl)) rfl
                      rw [hW.known 6 _ (hnd 6 (by kernel_rfl)) rfl] at h
                      exact h
                    have n8 : L 8 = false := notYet hW.closed (j := 8) (by rfl) (k := 7) (by kernel_rfl) hL0
                    have cx := cell_keep (hW.wi.low n8) hX2.out
                    go_simp
                    exact hK _ _ (fun v0 e => by cases e; rfl) (hW.wi.lo n8 (by decide) (Only.refl _ _))
                  · intro L vs A' u hW hL0 hnd K' hK
                    have r194 : A'.tmps[194]? = some (v) := by
                      have h := hW.val 0 194 (by decide) (hnd 0 (by kernel_rfl)) rfl
                      rw [hW.known 0 _ (hnd 0 (by kernel_rfl)) rfl] at h
                      exact h
                    have r196 : A'.tmps[196]? = some (iv P) := by
                      have h := hW.val 2 196 (by decide) (hnd 2 (by kernel_rfl)) rfl
                      rw [hW.known 2 _ (hnd 2 (by kernel_rfl)) rfl] at h
                      exact h
                    have r201 : A'.tmps[201]? = some (iv x) := by
                      have h := hW.val 7 201 (by decide) (hnd 7 (by kernel_rfl)) rfl
                      rw [hW.known 7 _ (hnd 7 (by kernel_rfl)) rfl] at h
                      exact h
                    have n9 : L 9 = false := notYet hW.closed (j := 9) (by rfl) (k := 8) (by kernel_rfl) hL0
                    have n10 : L 10 = false := notYet hW.closed (j := 10) (by rfl) (k := 9) (by kernel_rfl) n9
                    have n11 : L 11 = false := notYet hW.closed (j := 11) (by rfl) (k := 9) (by kernel_rfl) n9
                    have n12 : L 12 = false := notYet hW.closed (j := 12) (by rfl) (k := 10) (by kernel_rfl) n10
                    have HCL := Lib.hid (HPs.out u (hW.wi.low hL0))
                    go_simp
                    refine (HCL.out).mono ?_
                    rintro e' u' ⟨v13, rfl, hr13⟩
                    exact hK _ _ (fun v0 e => by cases e) (PutW.ask (v := v13) (fun q q1 q2 => by rcases (by omega : q = 9 ∨ q = 10 ∨ q = 11 ∨ q = 12) with rfl | rfl | rfl | rfl <;> assumption) rfl hr13)
                  · intro L vs A' u hW hL0 hnd K' hK
                    have r202 : A'.tmps[202]? = some (vs 8) := hW.val 8 202 (by decide) (hnd 8 (by kernel_rfl)) rfl
                    have h8 : L 8 = true := hnd 8 (by kernel_rfl)
                    go_simp
                    exact hK _ _ (fun v0 e => by cases e) (hW.wi.hi (by decide) h8 (fun v hv => hv 8 (by decide) (by decide) h8))
                  · intro L vs A' u hW hL0 hnd K' hK
                    have r193 : A'.tmps[193]? = some (vs 9) := hW.val 9 193 (by decide) (hnd 9 (by kernel_rfl)) rfl
                    have h9 : L 9 = true := hnd 9 (by kernel_rfl)
                    have h8 : L 8 = true := hW.closed 9 _ 8 (by rfl) h9 (by kernel_rfl)
                    obtain ⟨v13, _, hv13⟩ := hW.wi.got h8
                    have e9 := hv13 9 (by decide) (by decide) h9
                    simp only [pwF, Nat.reduceBEq, Bool.false_eq_true, if_false, if_true] at e9
                    rw [e9] at r193
                    go_simp
                    exact hK _ _ (fun v0 e => by cases e) (hW.wi.hi (by decide) h8 (fun v hv => pw_eq (e9.symm.trans (hv 9 (by decide) (by decide) h9))))
                  · intro L vs A' u hW hL0 hnd K' hK
                    have r193 : A'.tmps[193]? = some (vs 9) := hW.val 9 193 (by decide) (hnd 9 (by kernel_rfl)) rfl
                    have h9 : L 9 = true := hnd 9 (by kernel_rfl)
                    have h8 : L 8 = true := hW.closed 9 _ 8 (by rfl) h9 (by kernel_rfl)
                    obtain ⟨v13, _, hv13⟩ := hW.wi.got h8
                    have e9 := hv13 9 (by decide) (by decide) h9
                    simp only [pwF, Nat.reduceBEq, Bool.false_eq_true, if_false, if_true] at e9
                    rw [e9] at r193
                    go_simp
                    exact hK _ _ (fun v0 e => by cases e) (hW.wi.hi (by decide) h8 (fun v hv => rfl))
                  · intro L vs A' u hW hL0 hnd K' hK
                    have r203 : A'.tmps[203]? = some (vs 10) := hW.val 10 203 (by decide) (hnd 10 (by kernel_rfl)) rfl
                    have h10 : L 10 = true := hnd 10 (by kernel_rfl)
                    have h9 : L 9 = true := hW.closed 10 _ 9 (by rfl) h10 (by kernel_rfl)
                    have h8 : L 8 = true := hW.closed 9 _ 8 (by rfl) h9 (by kernel_rfl)
                    go_simp
                    exact hK _ _ (fun v0 e => by cases e) (hW.wi.hi (by decide) h8 (fun v hv => hv 10 (by decide) (by decide) h10))
                case donePU =>
                  intro L vs u hWI hkn hall
                  obtain ⟨v13, hr13, hv13⟩ := hWI.got (hall 8 (by decide))
                  have hk0 := hkn 0 _ (by decide) rfl
                  have hk1 := hkn 1 _ (by decide) rfl
                  have hk2 := hkn 2 _ (by decide) rfl
                  have hk3 := hkn 3 _ (by decide) rfl
                  have hk4 := hkn 4 _ (by decide) rfl
                  have hk5 := hkn 5 _ (by decide) rfl
                  have hk6 := hkn 6 _ (by decide) rfl
                  have hk7 := hkn 7 _ (by decide) rfl
                  have hk8 := hv13 8 (by decide) (by decide) (hall 8 (by decide))
                  have hk9 := hv13 9 (by decide) (by decide) (hall 9 (by decide))
                  have hk10 := hv13 10 (by decide) (by decide) (hall 10 (by decide))
                  have hk11 := hv13 11 (by decide) (by decide) (hall 11 (by decide))
                  have hk12 := hv13 12 (by decide) (by decide) (hall 12 (by decide))
                  simp only [pwF, Nat.reduceBEq, Bool.false_eq_true, if_false, if_true] at hk8 hk9 hk10 hk11 hk12
                  simp only [hk0, hk1, hk2, hk3, hk4, hk5, hk6, hk7, hk8, hk9, hk10, hk11, hk12, putV, List.foldl_cons, List.foldl_nil, List.setIfInBounds_toArray, List.set_cons_zero, List.set_cons_succ]
                  clear hWI hkn hall hv13 hk0 hk1 hk2 hk3 hk4 hk5 hk6 hk7 hk8 hk9 hk10 hk11 hk12 noOutPU
                  have H13 : Hid (RowTo w9 w3.heap.size v5 v13 (X ++ bitsN 4 Q ++ numB 5 ls ++ (cs.take (j + 1)).flatMap (numB P)) u) := Lib.hid (by
                    rw [HE.out, List.flatMap_append, List.flatMap_singleton, ← List.append_assoc]
                    exact hr13)
                  clear hr13
                  go_wp2
                  go_roundw
                  case rel => exact ⟨j + 1, v13, by rw [← Hchl.out]; omega, by go_num, rfl, H13.out⟩
                  case measure => simp [intOf]; omega
              · have hlt2 : ¬ (j : Int) < (nh : Int) := by omega
                obtain rfl : j = nh := by omega
                have x2 := HHj.out.cell 2
                simp only [List.getElem?_toArray, List.getElem?_cons_zero, List.getElem?_cons_succ] at x2
                have H13 : Hid (RowTo w9 w3.heap.size v5 v ((headB cd wd ++ PB) ++ (if ((3 : Nat) : Int) = 3 then linB ((P : Int)).toNat ls cs else [])) wr) := Lib.hid (by
                  rw [HXe.out]
                  have ht : cs.take j = cs := List.take_of_length_le (by rw [← Hchl.out]; exact Nat.le_refl _)
                  have hr := HRj.out
                  rw [ht] at hr
                  rw [if_pos (by omega), Int.toNat_natCast]
                  unfold linB
                  rw [HQ.out]
                  simpa only [List.append_assoc] using hr)
                go_wp2
                go_meet
                exact ⟨_, rfl, H13.out⟩
          · have g3i : ((k : Int) == 3) = false := by simp; omega
            go_wp2
            go_meet
            refine ⟨_, rfl, ?_⟩
            rw [if_neg (by omega), List.append_nil]
            exact HRr.out
        case rest =>
        obtain ⟨v14, rfl, hr14⟩ := hcut
        generalize wc = w14 at *
        have HO14 := Lib.hid (HR9.out.then hr14)
        have HB14 := Lib.hid (box_row HR9.out.row hr14 HB9.out (by decide))
        have HH14 := Lib.hid (box_row HR9.out.row hr14 HH9.out (by decide))
        have HS14 : Hid (ISrc w14 (.slice Ah nh ch) (tC k o cs)) := Lib.hid (HS9.out.only hr14.2.1 (fun i _ hF ad n c e hn => by
          intro hi
          injection e with e1 e2 _
          subst e2
          exact HAp.out ad e1 hn (by rw [hi]; exact hF)))
        clear c0 c1 c2 c3 c4 c5 c6 c7 c8 c9
        clear hr14
        have c0 := HB14.out.cell 0
        have c1 := HB14.out.cell 1
        have c2 := HB14.out.cell 2
        have c3 := HB14.out.cell 3
        have c4 := HB14.out.cell 4
        have c5 := HB14.out.cell 5
        have c6 := HB14.out.cell 6
        have c7 := HB14.out.cell 7
        have c8 := HB14.out.cell 8
        have c9 := HB14.out.cell 9
        simp only [List.getElem?_toArray, List.getElem?_cons_zero, List.getElem?_cons_succ] at c0 c1 c2 c3 c4 c5 c6 c7 c8 c9
        have x0 := HH14.out.cell 0
        have x1 := HH14.out.cell 1
        have x2 := HH14.out.cell 2
        simp only [List.getElem?_toArray, List.getElem?_cons_zero, List.getElem?_cons_succ] at x0 x1 x2
        have HRs := Lib.hid (K.residualRef_any (tP k lp) (tS k ls) Ah nh ch (tC k o cs) A2 n c2' ys HS14.out (HY3.out.nix HO14.out.only) (by omega))
        go_wp2_with fail
        refine (HRs.out).mono ?_
        intro e w15 hrs
        obtain ⟨⟨A15, c15, he, hs15⟩, ho15⟩ := hrs
        have hE15 := HFi.out.2.2.2
        rw [hE15] at he
        have hl15 := HFi.out.2.1
        obtain ⟨rs, hrs⟩ : ∃ rs, K.resV (tP k lp) (tS k ls) (tC k o cs) ys = rs := ⟨_, rfl⟩
        rw [hrs] at he hs15 hl15 HFi HCh
        subst he
        have HS15 := Lib.hid hs15
        have HO15 := Lib.hid (HO14.out.nix ho15)
        have HB15 := Lib.hid (HB14.out.only ho15 (fun e => e))
        clear c0 c1 c2 c3 c4 c5 c6 c7 c8 c9
        clear hs15 ho15 x0 x1 x2 hE15 hrs HRs
        have c0 := HB15.out.cell 0
        have c1 := HB15.out.cell 1
        have c2 := HB15.out.cell 2
        have c3 := HB15.out.cell 3
        have c4 := HB15.out.cell 4
        have c5 := HB15.out.cell 5
        have c6 := HB15.out.cell 6
        have c7 := HB15.out.cell 7
        have c8 := HB15.out.cell 8
        have c9 := HB15.out.cell 9
        simp only [List.getElem?_toArray, List.getElem?_cons_zero, List.getElem?_cons_succ] at c0 c1 c2 c3 c4 c5 c6 c7 c8 c9
        have hF := HFi.out.1
        have hz := hF.sizeE
        have hnp : np ≤ 300 := by
          have h1 := hF.np
          have h2 := hF.eq
          have h3 := hF.lt
          have h4 := HP.out.len
          have h5 : 2 ^ ro' * 1 ≤ 2 ^ ro' * (n / 2 ^ ro') := Nat.mul_le_mul_left _ (by omega)
          omega
        have HBi := Lib.hid (bitsRef5_any (w := w15) m ro (o : Int) A15 Ap Ab rs.length np nb c15 cp cb ps bs rs (by omega) (by omega) HS15.out (HP.out.nix (HO3.out.trans HO15.out.only)) (HB.out.nix (HO3.out.trans HO15.out.only)) (by omega) hnp)
        have hBz : sizeE m ro ps bs (o : Int) rs = 0 := by rw [Hmm.out.1, Hmm.out.2]; exact hz
        have hout : outL m ro ps bs (o : Int) rs = blockB (n / 2 ^ ro.toNat) o (2 ^ ro.toNat) m.toNat ro.toNat ps bs rs := by
          unfold outL
          rw [if_pos hBz, Int.toNat_natCast, hl15]
        rw [hBz, hout] at HBi
        have hLN : (if (k : Int) = 3 then linB lp.toNat ls cs else []).length ≤ 1000 := by
          by_cases g : (k : Int) = 3
          · rw [if_pos g]
            have g3 : k = 3 := by omega
            have hok := HFi.out.2.2.1
            subst g3
            obtain ⟨⟨q1, q2, q3, q4, q5⟩, _⟩ := hok
            have q1 : cs.length ≤ 32 := q1
            have q3 : lp ≤ 15 := q3
            unfold linB
            rw [List.length_append, List.length_append, bitsN_len, numB_len, numsB_len]
            have : lp.toNat * cs.length ≤ 15 * 32 := Nat.mul_le_mul (by omega) q1
            omega
          · rw [if_neg g]; simp
        have HLN := Lib.hid hLN
        obtain ⟨BK, hBK⟩ : ∃ BK, blockB (n / 2 ^ ro.toNat) o (2 ^ ro.toNat) m.toNat ro.toNat ps bs rs = BK := ⟨_, rfl⟩
        rw [hBK] at HBi HCh
        clear hF hz hBz hout hBK hLN hnp hl15
        go_wp2_with fail
        refine (HBi.out).mono ?_
        rintro e w16 ⟨v16, rfl, o16, hr16, hl16⟩
        have HR16 := Lib.hid hr16
        have HL16 := Lib.hid hl16
        have HO16 := Lib.hid (HO15.out.nix o16)
        obtain ⟨LN, hLN⟩ : ∃ LN, (if (k : Int) = 3 then linB lp.toNat ls cs else []) = LN := ⟨_, rfl⟩
        rw [hLN] at HO16 HLN HCh
        clear c0 c1 c2 c3 c4 c5 c6 c7 c8 c9
        clear o16 hr16 hl16 HBi hLN
        go_wp2_with (at_builtin; refine wpList_append_row rfl (.tmp 223) (.tmp 224) rfl v14 (headB cd wd ++ PB ++ LN) rfl HO16.out.row HO16.out.only w15.heap.size v16 BK rfl HR16.out ?h65 ?res5)
        case h65 =>
          rw [List.length_append, List.length_append]
          have := HeadL.out
          have := HPL.out
          have := HLN.out
          have := HL16.out
          omega
        case res5 =>
          intro v17 w17 hr17 ho17
          have HFin : Hid (Only Nix w w17 ∧ Bitrow w17 w.heap.size v17 (chB k o wd lp ls m ro cs ps bs d xs)) := Lib.hid ⟨(HA.out.trans HO3.out).trans ho17, by
            rw [HCh.out, if_pos (by omega)]
            try simp only [List.append_assoc] at hr17
            exact row_down hr17 (by have := HO3.out.size; have := Hws.out; omega)⟩
          clear hr17 ho17
          go_wp2
          go_ret2
          exact ⟨_, rfl, HFin.out⟩
end Go.Proofs.YteklfkpeaadinaaGreatDoor.S
