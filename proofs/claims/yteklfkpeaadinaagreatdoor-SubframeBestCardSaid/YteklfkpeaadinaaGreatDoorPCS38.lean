/-
  Package subframe: Best.
-/
import Derived.Test.YteklfkpeaadinaaGreatDoorPCS36
import Derived.Test.YteklfkpeaadinaaGreatDoorPCS37
import Derived.Test.YteklfkpeaadinaaGreatDoorPCS10
import Derived.Deep.Cut
import Derived.Deep.CutRange
namespace Go.Proofs.YteklfkpeaadinaaGreatDoor.S
open Go.RowKit Go.Shelf
open K (linV fx resV resE bestV)
/-- the least plan of residuals -/
def Scn (q : Nat) (rs : List Int) (x : Pl) : Prop := ∃ st1, ScanR 0 q 4 (rs.map fd) 0 none st1 ∧ ScanR 1 q 4 (rs.map fd) 0 st1 (some x)
noncomputable def szX (q : Nat) (rs : List Int) (x : Pl) : Nat := sizeN x.1 x.2.1 (x.2.2.map (·.1)) (x.2.2.map (·.2)) q rs
/-- which plan samples that are not the same get: Verbatim, or Fixed -/
def PlOk (D q n : Nat) (rs : List Int) (k o m ro : Int) (ps bs : List Int) : Prop :=
  (k = 1 ∧ o = 0 ∧ m = 0 ∧ ro = 0 ∧ ps = [] ∧ bs = [] ∧ ((∀ r ∈ rs, isR r) → ∃ x, Scn q rs x ∧ n * D ≤ q * D + szX q rs x)) ∨
  (k = 2 ∧ o = q ∧ (∀ r ∈ rs, isR r) ∧ ∃ x, Scn q rs x ∧ m = x.1 ∧ ro = x.2.1 ∧ ps = x.2.2.map (·.1) ∧ bs = x.2.2.map (·.2) ∧ q * D + szX q rs x < n * D)
/-- what Best answers -/
def BsR (d : Int) (xs : List Int) (w : World) (e : Ending) (w' : World) : Prop :=
  Only Nix w w' ∧ ((ckBlk xs.length d ≠ 0 ∧ e = .returned (.tuple #[zP, iv 1])) ∨
  (ckBlk xs.length d = 0 ∧ ((¬ fitsD d.toNat xs ∧ e = .returned (.tuple #[zP, iv 10])) ∨
    (fitsD d.toNat xs ∧ sameA xs ∧ e = .returned (.tuple #[spV 0 0 (nou xs) 0 0 (.slice none 0 0) 0 0 (.slice none 0 0) (.slice none 0 0), iv 0])) ∨
    (fitsD d.toNat xs ∧ ¬ sameA xs ∧ ∃ (k o m ro : Int) (A1 A2 : Option Addr) (n1 c1 n2 c2 : Nat) (ps bs : List Int), e = .returned (.tuple #[spV k o (nou xs) 0 0 (.slice none 0 0) m ro (.slice A1 n1 c1) (.slice A2 n2 c2), iv 0]) ∧
      ISrc w' (.slice A1 n1 c1) ps ∧ ISrc w' (.slice A2 n2 c2) bs ∧ PlOk (d.toNat - nou xs) (bestV (xs.map (dvd (nou xs)))) xs.length (resV 4 0 (fx (bestV (xs.map (dvd (nou xs))))) (xs.map (dvd (nou xs)))) k o m ro ps bs ∧ (∀ ad, (A1 = some ad ∧ 0 < n1) ∨ (A2 = some ad ∧ 0 < n2) → w.heap.size ≤ ad.block)))))
theorem cell_ltB {w : World} {a : Addr} {v : Value} (h : w.cell? a = some v) : a.block < w.heap.size := by
  unfold World.cell? at h
  cases hg : w.heap[a.block]? with
  | none => rw [hg] at h; cases h
  | some o => exact (Array.getElem?_eq_some_iff.1 hg).1
theorem isrc_ltB {w : World} {A : Option Addr} {n c : Nat} {xs : List Int} (h : ISrc w (.slice A n c) xs) : ∀ ad, A = some ad → 0 < n → ad.block < w.heap.size := by
  intro ad e hn
  subst e
  have hl := h.len
  obtain ⟨ad', e, hc⟩ := h.at_ (k := 0) (by omega)
  injection e with e
  subst e
  exact cell_ltB hc
/-- where the plan lies -/
structure FiI (w : World) (b4 b8 : Nat) (D q n : Nat) (rs : List Int) (u : World) : Prop where
  ex : ∃ (k o m ro : Int) (A1 A2 : Option Addr) (n1 c1 n2 c2 : Nat) (ps bs : List Int), Box u b8 28 (spC k o 0 0 0 (.slice none 0 0) m ro (.slice A1 n1 c1) (.slice A2 n2 c2)) ∧ ISrc u (.slice A1 n1 c1) ps ∧ ISrc u (.slice A2 n2 c2) bs ∧ PlOk D q n rs k o m ro ps bs ∧ (∀ ad, (A1 = some ad ∧ 0 < n1) ∨ (A2 = some ad ∧ 0 < n2) → w.heap.size ≤ ad.block ∧ ad.block ≠ b4 ∧ ad.block ≠ b8)
  box : Box u b4 28 zC
  only : Only Nix w u
theorem not_same_zero {xs : List Int} (h : ¬ sameA xs) : ¬ ∀ x ∈ xs, x = 0 := fun h0 => h (fun x hx => by
  rw [h0 x hx]
  cases xs with
  | nil => cases hx
  | cons y l => exact (h0 y (by simp)).symm)
set_option maxRecDepth 100000 in
set_option maxHeartbeats 8000000 in
theorem bestP_any {w : World} (d : Int) (A : Option Addr) (n c : Nat) (xs : List Int) (hx : ISrc w (.slice A n c) xs) (hn : n ≤ 1000) (hT : Tab w) :
    Calls Tryz.prog 23 #[iv d, .slice A n c] w fun e w' => BsR d xs w e w' := by
  have hxl := hx.len
  obtain ⟨Wa, hWa⟩ : ∃ Wa, w.alloc (.cells zC 28) = Wa := ⟨_, rfl⟩
  have a0 := (Only.refl Nix w).alloc (.cells zC 28)
  have bq := Box.new w 28 zC
  rw [hWa] at a0 bq
  have HCk := Lib.hid (checkBlock_any Wa n d)
  have HX := Lib.hid (hx.nix a0)
  have HT := Lib.hid (hT.nix a0)
  have HX0 := Lib.hid hx
  have HA := Lib.hid a0
  have HBq := Lib.hid bq
  have Hxl := Lib.hid hxl
  by_cases hck : ckBlk n d = 0
  · rw [hck] at HCk
    have hb' : 4 ≤ d ∧ d ≤ 33 ∧ 1 ≤ n := by
      unfold ckBlk at hck
      split at hck
      · cases hck
      · omega
    have hck2 : ckBlk xs.length d = 0 := by rw [← hxl]; exact hck
    obtain ⟨D0, hD0⟩ := Int.eq_ofNat_of_zero_le (show 0 ≤ d by omega)
    have hD0 : d = (D0 : Int) := hD0
    subst hD0
    have hd4 : 4 ≤ D0 := by omega
    have hd33 : D0 ≤ 33 := by omega
    have hn1 : 1 ≤ n := by omega
    have HF := Lib.hid (areSamples_any (w := Wa) D0 (by omega) hd33 A n c xs HX.out)
    have HC2 := Lib.hid hck2
    clear hx hxl a0 bq hck hck2 hb' hT
    by_cases hf : fitsD D0 xs
    · rw [decide_eq_true hf] at HF
      have HN := Lib.hid (noughts_any (w := Wa) A n c xs HX.out HT.out)
      have HCo := Lib.hid (isConstant_any (w := Wa) A n c xs HX.out (by omega))
      have Hf := Lib.hid hf
      by_cases hs : sameA xs
      · rw [decide_eq_true hs] at HCo
        have Hs := Lib.hid hs
        obtain ⟨W, hW⟩ : ∃ W, nou xs = W := ⟨_, rfl⟩
        rw [hW] at HN
        have HW := Lib.hid hW
        clear hf hs hW
        go_enter Tryz.func23, Tryz.ntmps23
        go_wp2_with fail
        refine (HCk.out).mono ?_
        rintro e w1 ⟨rfl, rfl⟩
        go_wp2_with fail
        refine (HF.out).mono ?_
        rintro e w1 ⟨rfl, rfl⟩
        go_wp2_with fail
        refine (HN.out).mono ?_
        rintro e w1 ⟨rfl, rfl⟩
        go_wp2_with fail
        refine (HCo.out).mono ?_
        rintro e w2 ⟨rfl, rfl⟩
        go_wp2_with (refine wpList_store_row rfl 28 (.tmp 4) (.tmp 29) rfl rfl w.heap.size 28 zC (spC 0 0 W 0 0 (.slice none 0 0) 0 0 (.slice none 0 0) (.slice none 0 0)) rfl rfl HBq.out Tryz.size_plan rfl (spC_one _ _ _ _ _ _ _ _ _ _ _ _ _ _ _ _) ?st)
        case st =>
          intro w3 hb3 ho3
          have HO3 : Hid (Only Nix w w3) := Lib.hid (HA.out.then ho3 (fun i e => .inr (by cases e; exact Nat.le_refl _)))
          have y0 := hb3.cell 0
          have y1 := hb3.cell 1
          have y2 := hb3.cell 2
          have y3 := hb3.cell 3
          have y4 := hb3.cell 4
          have y5 := hb3.cell 5
          have y6 := hb3.cell 6
          have y7 := hb3.cell 7
          have y8 := hb3.cell 8
          have y9 := hb3.cell 9
          simp only [List.getElem?_toArray, List.getElem?_cons_zero, List.getElem?_cons_succ] at y0 y1 y2 y3 y4 y5 y6 y7 y8 y9
          clear hb3 ho3
          go_wp2
          refine bodyPost_ret (v := .tuple #[spV 0 0 W 0 0 (.slice none 0 0) 0 0 (.slice none 0 0) (.slice none 0 0), iv 0]) ?_ rfl ?_
          · simp [results, Tryz.f23, go_sem, y0, y1, y2, y3, y4, y5, y6, y7, y8, y9]
          exact ⟨HO3.out, .inr ⟨HC2.out, .inr (.inl ⟨by rw [Int.toNat_natCast]; exact Hf.out, Hs.out, by rw [HW.out]⟩)⟩⟩
      · rw [decide_eq_false hs] at HCo
        have Hs := Lib.hid hs
        obtain ⟨p1, p2, p3⟩ := nou_pos (show 1 ≤ D0 by omega) hd33 hf (not_same_zero hs)
        have hyS : ∀ y ∈ xs.map (dvd (nou xs)), K.isS y := fun y hy => by
          obtain ⟨x, hx, rfl⟩ := List.mem_map.1 hy
          have h1 := isS_dvd p3 (hf x hx)
          unfold isS at h1
          rw [if_neg (by omega)] at h1
          have h2 : (2 : Int) ^ (D0 - nou xs - 1) ≤ 2 ^ 32 := by
            have : (2 : Nat) ^ (D0 - nou xs - 1) ≤ 2 ^ 32 := Nat.pow_le_pow_right (by decide) (by omega)
            exact_mod_cast this
          have h3 : (2 : Int) ^ 32 = 4294967296 := by decide
          unfold K.isS
          omega
        obtain ⟨W, hW⟩ : ∃ W, nou xs = W := ⟨_, rfl⟩
        rw [hW] at HN p3 hyS
        have HW := Lib.hid hW
        have hylen : (xs.map (dvd W)).length = n := by rw [List.length_map, Hxl.out]
        have HDv := Lib.hid (divided_any (w := Wa) A n c W xs HX.out (by omega) (by omega))
        obtain ⟨D, hD⟩ : ∃ D, D0 - W = D := ⟨_, rfl⟩
        have hDi : (D0 : Int) - (W : Int) = (D : Int) := by omega
        have hD33 : D ≤ 33 := by omega
        have HD := Lib.hid hD
        obtain ⟨ys, hys⟩ : ∃ ys, xs.map (dvd W) = ys := ⟨_, rfl⟩
        have Hys := Lib.hid hys
        rw [hys] at HDv hyS hylen
        have HLf : Hid (∀ (u : World) (A' : Option Addr) (c' : Nat), ISrc u (.slice A' n c') ys → Calls Tryz.prog 57 #[iv D, .slice A' n c'] u fun e w' => LfR D (bestV ys) (resV 4 0 (fx (bestV ys)) ys) u e w') := Lib.hid (fun u A' c' h => leastFixed_any D (by omega) A' n c' ys h hn1 hn hyS)
        have hbl := bestV_lt ys (by omega)
        obtain ⟨q, hq⟩ : ∃ q, bestV ys = q := ⟨_, rfl⟩
        rw [hq] at HLf hbl
        obtain ⟨rs, hrs⟩ : ∃ rs, resV 4 0 (fx q) ys = rs := ⟨_, rfl⟩
        rw [hrs] at HLf
        have hrl := resV_fx_len hbl.1 (by omega) hyS
        rw [hrs] at hrl
        have hrs1 : 1 ≤ rs.length := by omega
        have hrs2 : rs.length + q ≤ 65535 := by omega
        have hrs3 : rs.length + q = n := by omega
        have HQ := Lib.hid (And.intro hq hrs)
        have Hyl := Lib.hid hylen
        have hnD : (n : Int) * (D : Int) = ((n * D : Nat) : Int) := by rw [Int.natCast_mul]
        have hnDb : n * D ≤ 1000 * 33 := Nat.mul_le_mul hn hD33
        obtain ⟨ND, hND⟩ : ∃ ND, n * D = ND := ⟨_, rfl⟩
        rw [hND] at hnD hnDb
        have HND := Lib.hid hND
        obtain ⟨hbq4, hbqn⟩ := hbl
        clear hf hs hW hD hys hq hrs hyS p1 p2 hylen hND hrl
        go_enter Tryz.func23, Tryz.ntmps23
        go_wp2_with fail
        refine (HCk.out).mono ?_
        rintro e w1 ⟨rfl, rfl⟩
        go_wp2_with fail
        refine (HF.out).mono ?_
        rintro e w1 ⟨rfl, rfl⟩
        go_wp2_with fail
        refine (HN.out).mono ?_
        rintro e w1 ⟨rfl, rfl⟩
        go_wp2_with fail
        refine (HCo.out).mono ?_
        rintro e w2 ⟨rfl, rfl⟩
        go_wp2_with fail
        refine (HDv.out).mono ?_
        intro e w3 hdv
        obtain ⟨v3, rfl, hri, o3⟩ := hdv
        obtain ⟨A3, c3', hv3⟩ := hri.form
        rw [Hyl.out] at hv3
        subst hv3
        have HS3 := Lib.hid (hri.isrc (by rw [Hyl.out]; omega))
        have HO3 := Lib.hid (HA.out.trans o3)
        have HB3 := Lib.hid (HBq.out.only o3 (fun e => e))
        have HLf3 := Lib.hid (HLf.out w3 A3 c3' HS3.out)
        have hw3 := HB3.out.lt
        clear hri o3 HLf HDv
        go_wp2_with fail
        refine (HLf3.out).mono ?_
        rintro e w4 (⟨hnR, rfl, o4⟩ | ⟨hR, x, st1, A1, A2, n1, c1, n2, c2, rfl, hs1, hs2, hsc0, hsc1, hg, o4⟩)
        · have HB4 := Lib.hid (HB3.out.only o4 (fun e => e))
          have HO4 := Lib.hid (HO3.out.trans o4)
          have hw4 := HB4.out.lt
          have HnR := Lib.hid hnR
          clear o4 hnR HLf3
          go_wp2_with (refine wpList_store_row rfl 28 (.tmp 8) (.tmp 38) rfl rfl w4.heap.size 28 zC zC rfl rfl (Box.new w4 _ _) Tryz.size_plan rfl (spC_one _ _ _ _ _ _ _ _ _ _ _ _ _ _ _ _) ?sa)
          case sa =>
            intro w5 hb5 ho5
            have o45 : Only Nix w4 w5 := ((Only.refl Nix w4).alloc _).then ho5 (fun i e => .inr (by cases e; exact Nat.le_refl _))
            have HO5 := Lib.hid (HO4.out.trans o45)
            have HB5 := Lib.hid (HB4.out.only o45 (fun e => e))
            have Hb5 := Lib.hid hb5
            clear hb5 ho5 o45
            go_upto_if 52 with fail
            go_cut [8] from 11 (fun s8 wx => s8 = .pointer (some ⟨w4.heap.size, 0, none⟩) ∧ FiI w w.heap.size w4.heap.size D q n rs wx)
            case first =>
              go_wp2_with (refine wpList_store_row rfl 28 (.tmp 8) (.tmp 53) rfl rfl w4.heap.size 28 zC (spC 1 0 0 0 0 (.slice none 0 0) 0 0 (.slice none 0 0) (.slice none 0 0)) rfl rfl Hb5.out Tryz.size_plan rfl (spC_one _ _ _ _ _ _ _ _ _ _ _ _ _ _ _ _) ?sb)
              case sb =>
                intro w6 hb6 ho6
                have HFi : Hid (FiI w w.heap.size w4.heap.size D q n rs w6) := Lib.hid ⟨⟨1, 0, 0, 0, none, none, 0, 0, 0, 0, [], [], hb6, K.isrc_nil _, K.isrc_nil _, .inl ⟨rfl, rfl, rfl, rfl, rfl, rfl, fun h => absurd h HnR.out⟩, fun ad e => by rcases e with ⟨e, _⟩ | ⟨e, _⟩ <;> cases e⟩, HB5.out.only ho6 (fun e => by have : w.heap.size = w4.heap.size := e; omega), HO5.out.then ho6 (fun i e => .inr (by cases e; omega))⟩
                clear hb6 ho6
                go_wp2
                go_meet
                exact ⟨rfl, HFi.out⟩
            case rest =>
            obtain ⟨rfl, hF⟩ := hcut
            generalize wc = w7 at *
            obtain ⟨⟨k, o, m, ro, A1, A2, n1, c1, n2, c2, ps, bs, hb7, hs1, hs2, hpl, hg⟩, hb4, hO7⟩ := hF
            have oS := (Only.refl (Just w4.heap.size) w7).setCell (p := ⟨w4.heap.size, 2, none⟩) (.inl rfl) (iv W)
            have HB4s : Hid (Box (w7.setCell ⟨w4.heap.size, 2, none⟩ (iv W)) w.heap.size 28 zC) := Lib.hid (hb4.off (p := ⟨w4.heap.size, 2, none⟩) (show w.heap.size ≠ w4.heap.size by omega) _)
            have HP := Lib.hid hpl
            have HG := Lib.hid hg
            have HS1 := Lib.hid (hs1.only oS (fun i _ hF ad n c e hn => by
              cases hF
              injection e with e1 e2
              exact (HG.out ad (.inl ⟨e1, by omega⟩)).2.2))
            have HS2 := Lib.hid (hs2.only oS (fun i _ hF ad n c e hn => by
              cases hF
              injection e with e1 e2
              exact (HG.out ad (.inr ⟨e1, by omega⟩)).2.2))
            have HO7 : Hid (Only Nix w (w7.setCell ⟨w4.heap.size, 2, none⟩ (iv W))) := Lib.hid (hO7.then oS (fun i e => .inr (by cases e; omega)))
            have z0 := hb7.cell 0
            have z1 := hb7.cell 1
            have z2 := hb7.cell 2
            have z3 := hb7.cell 3
            have z4 := hb7.cell 4
            have z5 := hb7.cell 5
            have z6 := hb7.cell 6
            have z7 := hb7.cell 7
            have z8 := hb7.cell 8
            have z9 := hb7.cell 9
            simp only [List.getElem?_toArray, List.getElem?_cons_zero, List.getElem?_cons_succ] at z0 z1 z2 z3 z4 z5 z6 z7 z8 z9
            have f2 := hb7.frozen 2
            clear hb7 hs1 hs2 hpl hg hb4 hO7 oS
            go_wp2_with (refine wpList_store_row rfl 28 (.tmp 4) (.tmp 56) rfl rfl w.heap.size 28 zC (spC k o W 0 0 (.slice none 0 0) m ro (.slice A1 n1 c1) (.slice A2 n2 c2)) rfl rfl HB4s.out Tryz.size_plan rfl (spC_one _ _ _ _ _ _ _ _ _ _ _ _ _ _ _ _) ?sfa)
            case sfa =>
              intro w8 hb8 ho8
              have HO8 : Hid (Only Nix w w8) := Lib.hid (HO7.out.then ho8 (fun i e => .inr (by cases e; exact Nat.le_refl _)))
              have hS1 := HS1.out.only ho8 (fun i _ hF ad n c e hn => by
                cases hF
                injection e with e1 e2
                exact (HG.out ad (.inl ⟨e1, by omega⟩)).2.1)
              have hS2 := HS2.out.only ho8 (fun i _ hF ad n c e hn => by
                cases hF
                injection e with e1 e2
                exact (HG.out ad (.inr ⟨e1, by omega⟩)).2.1)
              have HR1 := Lib.hid (And.intro hS1 hS2)
              clear z0 z1 z2 z3 z4 z5 z6 z7 z8 z9
              have y0 := hb8.cell 0
              have y1 := hb8.cell 1
              have y2 := hb8.cell 2
              have y3 := hb8.cell 3
              have y4 := hb8.cell 4
              have y5 := hb8.cell 5
              have y6 := hb8.cell 6
              have y7 := hb8.cell 7
              have y8 := hb8.cell 8
              have y9 := hb8.cell 9
              simp only [List.getElem?_toArray, List.getElem?_cons_zero, List.getElem?_cons_succ] at y0 y1 y2 y3 y4 y5 y6 y7 y8 y9
              clear hb8 ho8 f2 hS1 hS2
              go_wp2
              refine bodyPost_ret (v := .tuple #[spV k o W 0 0 (.slice none 0 0) m ro (.slice A1 n1 c1) (.slice A2 n2 c2), iv 0]) ?_ rfl ?_
              · simp [results, Tryz.f23, go_sem, y0, y1, y2, y3, y4, y5, y6, y7, y8, y9]
              refine ⟨HO8.out, .inr ⟨HC2.out, .inr (.inr ⟨by rw [Int.toNat_natCast]; exact Hf.out, Hs.out, k, o, m, ro, A1, A2, n1, c1, n2, c2, ps, bs, ?_, HR1.out.1, HR1.out.2, ?_, fun ad e => (HG.out ad e).1⟩)⟩⟩
              · rw [HW.out]
              · rw [HW.out, Int.toNat_natCast, HD.out, Hys.out, HQ.out.1, HQ.out.2, ← Hxl.out]
                exact HP.out
        · have HB4 := Lib.hid (HB3.out.only o4 (fun e => e))
          have HO4 := Lib.hid (HO3.out.trans o4)
          have hw4 := HB4.out.lt
          have HR := Lib.hid hR
          have Hl1 := Lib.hid (isrc_ltB hs1)
          have Hl2 := Lib.hid (isrc_ltB hs2)
          have Hs1 := Lib.hid hs1
          have Hs2 := Lib.hid hs2
          have hsc : Scn q rs x := ⟨st1, hsc0, hsc1⟩
          have HSc := Lib.hid hsc
          have Hg := Lib.hid hg
          obtain ⟨sz, hsz⟩ : ∃ sz, sizeN (x.1 : Int) (x.2.1 : Int) (x.2.2.map (·.1)) (x.2.2.map (·.2)) (q : Int) rs = sz := ⟨_, rfl⟩
          have Hsz : Hid (szX q rs x = sz) := Lib.hid hsz
          have hqD : (q : Int) * (D : Int) = ((q * D : Nat) : Int) := by rw [Int.natCast_mul]
          have hqD2 : q * D ≤ 4 * 33 := Nat.mul_le_mul (by omega) hD33
          obtain ⟨QD, hQD⟩ : ∃ QD, q * D = QD := ⟨_, rfl⟩
          rw [hQD] at hqD hqD2
          have HQD := Lib.hid hQD
          have hszb : sz ≤ 6 + 4294967400 * 1000 := by
            obtain ⟨x2, e2, hval, _⟩ := least_le (raw_fine hbq4 hrs1 hrs2 hR) (Nat.zero_le 4) hsc0 hsc1
            injection e2 with e2
            subst e2
            have hfine := hval.fine (by decide) (by omega) hrs2 hR
            have hbd := block_bound hfine
            rw [blockB_len hfine, hfine.eq, hsz, hrs3] at hbd
            omega
          rw [hsz, hqD]
          clear o4 hR hs1 hs2 hsc0 hsc1 hsc hg hsz hQD HLf3 hqD
          go_wp2_with (refine wpList_store_row rfl 28 (.tmp 8) (.tmp 38) rfl rfl w4.heap.size 28 zC (spC 2 q 0 0 0 (.slice none 0 0) x.1 x.2.1 (.slice A1 n1 c1) (.slice A2 n2 c2)) rfl rfl (Box.new w4 _ _) Tryz.size_plan rfl (spC_one _ _ _ _ _ _ _ _ _ _ _ _ _ _ _ _) ?sc)
          case sc =>
            intro w5 hb5 ho5
            have o45 : Only Nix w4 w5 := ((Only.refl Nix w4).alloc _).then ho5 (fun i e => .inr (by cases e; exact Nat.le_refl _))
            have HO5 := Lib.hid (HO4.out.trans o45)
            have HB5 := Lib.hid (HB4.out.only o45 (fun e => e))
            have Hb5 := Lib.hid hb5
            have Hs1 := Lib.hid (Hs1.out.nix o45)
            have Hs2 := Lib.hid (Hs2.out.nix o45)
            clear hb5 ho5 o45
            go_upto_if 52 with fail
            go_cut [8] from 11 (fun s8 wx => s8 = .pointer (some ⟨w4.heap.size, 0, none⟩) ∧ FiI w w.heap.size w4.heap.size D q n rs wx)
            case first =>
              by_cases hlt : QD + sz < ND
              · have hlti : ¬ (ND : Int) ≤ (QD : Int) + (sz : Int) := by omega
                have HFi : Hid (FiI w w.heap.size w4.heap.size D q n rs w5) := Lib.hid ⟨⟨2, q, x.1, x.2.1, A1, A2, n1, c1, n2, c2, _, _, Hb5.out, Hs1.out, Hs2.out, .inr ⟨rfl, rfl, HR.out, x, HSc.out, rfl, rfl, rfl, rfl, by rw [HQD.out, Hsz.out, HND.out]; exact hlt⟩, fun ad e => by
                  rcases e with ⟨e, h0⟩ | ⟨e, h0⟩
                  · have h1 := Hl1.out ad e h0
                    have h2 := Hg.out ad (.inl e)
                    have h3 := HO3.out.size
                    exact ⟨by omega, by omega, by omega⟩
                  · have h1 := Hl2.out ad e h0
                    have h2 := Hg.out ad (.inr e)
                    have h3 := HO3.out.size
                    exact ⟨by omega, by omega, by omega⟩⟩, HB5.out, HO5.out⟩
                clear hlt
                go_wp2
                go_meet
                exact ⟨rfl, HFi.out⟩
              · have hlti : (ND : Int) ≤ (QD : Int) + (sz : Int) := by omega
                have Hge : Hid (n * D ≤ q * D + szX q rs x) := Lib.hid (by rw [HQD.out, Hsz.out, HND.out]; omega)
                clear hlt
                go_wp2_with (refine wpList_store_row rfl 28 (.tmp 8) (.tmp 53) rfl rfl w4.heap.size 28 (spC 2 q 0 0 0 (.slice none 0 0) x.1 x.2.1 (.slice A1 n1 c1) (.slice A2 n2 c2)) (spC 1 0 0 0 0 (.slice none 0 0) 0 0 (.slice none 0 0) (.slice none 0 0)) rfl rfl Hb5.out Tryz.size_plan rfl (spC_one _ _ _ _ _ _ _ _ _ _ _ _ _ _ _ _) ?sd)
                case sd =>
                  intro w6 hb6 ho6
                  have HFi : Hid (FiI w w.heap.size w4.heap.size D q n rs w6) := Lib.hid ⟨⟨1, 0, 0, 0, none, none, 0, 0, 0, 0, [], [], hb6, K.isrc_nil _, K.isrc_nil _, .inl ⟨rfl, rfl, rfl, rfl, rfl, rfl, fun _ => ⟨x, HSc.out, Hge.out⟩⟩, fun ad e => by rcases e with ⟨e, _⟩ | ⟨e, _⟩ <;> cases e⟩, HB5.out.only ho6 (fun e => by have : w.heap.size = w4.heap.size := e; omega), HO5.out.then ho6 (fun i e => .inr (by cases e; omega))⟩
                  clear hb6 ho6
                  go_wp2
                  go_meet
                  exact ⟨rfl, HFi.out⟩
            case rest =>
            obtain ⟨rfl, hF⟩ := hcut
            generalize wc = w7 at *
            obtain ⟨⟨k, o, m, ro, A1, A2, n1, c1, n2, c2, ps, bs, hb7, hs1, hs2, hpl, hg⟩, hb4, hO7⟩ := hF
            have oS := (Only.refl (Just w4.heap.size) w7).setCell (p := ⟨w4.heap.size, 2, none⟩) (.inl rfl) (iv W)
            have HB4s : Hid (Box (w7.setCell ⟨w4.heap.size, 2, none⟩ (iv W)) w.heap.size 28 zC) := Lib.hid (hb4.off (p := ⟨w4.heap.size, 2, none⟩) (show w.heap.size ≠ w4.heap.size by omega) _)
            have HP := Lib.hid hpl
            have HG := Lib.hid hg
            have HS1 := Lib.hid (hs1.only oS (fun i _ hF ad n c e hn => by
              cases hF
              injection e with e1 e2
              exact (HG.out ad (.inl ⟨e1, by omega⟩)).2.2))
            have HS2 := Lib.hid (hs2.only oS (fun i _ hF ad n c e hn => by
              cases hF
              injection e with e1 e2
              exact (HG.out ad (.inr ⟨e1, by omega⟩)).2.2))
            have HO7 : Hid (Only Nix w (w7.setCell ⟨w4.heap.size, 2, none⟩ (iv W))) := Lib.hid (hO7.then oS (fun i e => .inr (by cases e; omega)))
            have z0 := hb7.cell 0
            have z1 := hb7.cell 1
            have z2 := hb7.cell 2
            have z3 := hb7.cell 3
            have z4 := hb7.cell 4
            have z5 := hb7.cell 5
            have z6 := hb7.cell 6
            have z7 := hb7.cell 7
            have z8 := hb7.cell 8
            have z9 := hb7.cell 9
            simp only [List.getElem?_toArray, List.getElem?_cons_zero, List.getElem?_cons_succ] at z0 z1 z2 z3 z4 z5 z6 z7 z8 z9
            have f2 := hb7.frozen 2
            clear hb7 hs1 hs2 hpl hg hb4 hO7 oS
            go_wp2_with (refine wpList_store_row rfl 28 (.tmp 4) (.tmp 56) rfl rfl w.heap.size 28 zC (spC k o W 0 0 (.slice none 0 0) m ro (.slice A1 n1 c1) (.slice A2 n2 c2)) rfl rfl HB4s.out Tryz.size_plan rfl (spC_one _ _ _ _ _ _ _ _ _ _ _ _ _ _ _ _) ?sfb)
            case sfb =>
              intro w8 hb8 ho8
              have HO8 : Hid (Only Nix w w8) := Lib.hid (HO7.out.then ho8 (fun i e => .inr (by cases e; exact Nat.le_refl _)))
              have hS1 := HS1.out.only ho8 (fun i _ hF ad n c e hn => by
                cases hF
                injection e with e1 e2
                exact (HG.out ad (.inl ⟨e1, by omega⟩)).2.1)
              have hS2 := HS2.out.only ho8 (fun i _ hF ad n c e hn => by
                cases hF
                injection e with e1 e2
                exact (HG.out ad (.inr ⟨e1, by omega⟩)).2.1)
              have HR1 := Lib.hid (And.intro hS1 hS2)
              clear z0 z1 z2 z3 z4 z5 z6 z7 z8 z9
              have y0 := hb8.cell 0
              have y1 := hb8.cell 1
              have y2 := hb8.cell 2
              have y3 := hb8.cell 3
              have y4 := hb8.cell 4
              have y5 := hb8.cell 5
              have y6 := hb8.cell 6
              have y7 := hb8.cell 7
              have y8 := hb8.cell 8
              have y9 := hb8.cell 9
              simp only [List.getElem?_toArray, List.getElem?_cons_zero, List.getElem?_cons_succ] at y0 y1 y2 y3 y4 y5 y6 y7 y8 y9
              clear hb8 ho8 f2 hS1 hS2
              go_wp2
              refine bodyPost_ret (v := .tuple #[spV k o W 0 0 (.slice none 0 0) m ro (.slice A1 n1 c1) (.slice A2 n2 c2), iv 0]) ?_ rfl ?_
              · simp [results, Tryz.f23, go_sem, y0, y1, y2, y3, y4, y5, y6, y7, y8, y9]
              refine ⟨HO8.out, .inr ⟨HC2.out, .inr (.inr ⟨by rw [Int.toNat_natCast]; exact Hf.out, Hs.out, k, o, m, ro, A1, A2, n1, c1, n2, c2, ps, bs, ?_, HR1.out.1, HR1.out.2, ?_, fun ad e => (HG.out ad e).1⟩)⟩⟩
              · rw [HW.out]
              · rw [HW.out, Int.toNat_natCast, HD.out, Hys.out, HQ.out.1, HQ.out.2, ← Hxl.out]
                exact HP.out
    · have Hf := Lib.hid hf
      rw [decide_eq_false hf] at HF
      clear hf
      go_enter Tryz.func23, Tryz.ntmps23
      go_wp2_with fail
      refine (HCk.out).mono ?_
      rintro e w1 ⟨rfl, rfl⟩
      go_wp2_with fail
      refine (HF.out).mono ?_
      rintro e w1 ⟨rfl, rfl⟩
      go_wp2_with (refine wpList_store_row rfl 28 (.tmp 4) (.tmp 23) rfl rfl w.heap.size 28 zC zC rfl rfl HBq.out Tryz.size_plan rfl (spC_one _ _ _ _ _ _ _ _ _ _ _ _ _ _ _ _) ?se)
      case se =>
        intro w3 hb3 ho3
        have HO3 : Hid (Only Nix w w3) := Lib.hid (HA.out.then ho3 (fun i e => .inr (by cases e; exact Nat.le_refl _)))
        have y0 := hb3.cell 0
        have y1 := hb3.cell 1
        have y2 := hb3.cell 2
        have y3 := hb3.cell 3
        have y4 := hb3.cell 4
        have y5 := hb3.cell 5
        have y6 := hb3.cell 6
        have y7 := hb3.cell 7
        have y8 := hb3.cell 8
        have y9 := hb3.cell 9
        simp only [List.getElem?_toArray, List.getElem?_cons_zero, List.getElem?_cons_succ] at y0 y1 y2 y3 y4 y5 y6 y7 y8 y9
        clear hb3 ho3
        go_wp2
        refine bodyPost_ret (v := .tuple #[zP, iv 10]) ?_ rfl ?_
        · simp [results, Tryz.f23, go_sem, y0, y1, y2, y3, y4, y5, y6, y7, y8, y9]
        exact ⟨HO3.out, .inr ⟨HC2.out, .inl ⟨by rw [Int.toNat_natCast]; exact Hf.out, rfl⟩⟩⟩
  · have h1 : ckBlk n d = 1 := by
      unfold ckBlk at hck ⊢
      split at hck
      · rename_i g; rw [if_pos g]
      · exact absurd rfl hck
    rw [h1] at HCk
    have hck2 : ckBlk xs.length d ≠ 0 := by rw [← hxl]; exact hck
    have HC2 := Lib.hid hck2
    clear hx hxl a0 bq hck hck2 hT h1
    go_enter Tryz.func23, Tryz.ntmps23
    go_wp2_with fail
    refine (HCk.out).mono ?_
    rintro e w1 ⟨rfl, rfl⟩
    go_wp2_with (refine wpList_store_row rfl 28 (.tmp 4) (.tmp 17) rfl rfl w.heap.size 28 zC zC rfl rfl HBq.out Tryz.size_plan rfl (spC_one _ _ _ _ _ _ _ _ _ _ _ _ _ _ _ _) ?sg)
    case sg =>
      intro w3 hb3 ho3
      have HO3 : Hid (Only Nix w w3) := Lib.hid (HA.out.then ho3 (fun i e => .inr (by cases e; exact Nat.le_refl _)))
      have y0 := hb3.cell 0
      have y1 := hb3.cell 1
      have y2 := hb3.cell 2
      have y3 := hb3.cell 3
      have y4 := hb3.cell 4
      have y5 := hb3.cell 5
      have y6 := hb3.cell 6
      have y7 := hb3.cell 7
      have y8 := hb3.cell 8
      have y9 := hb3.cell 9
      simp only [List.getElem?_toArray, List.getElem?_cons_zero, List.getElem?_cons_succ] at y0 y1 y2 y3 y4 y5 y6 y7 y8 y9
      clear hb3 ho3
      go_wp2
      refine bodyPost_ret (v := .tuple #[zP, iv 1]) ?_ rfl ?_
      · simp [results, Tryz.f23, go_sem, y0, y1, y2, y3, y4, y5, y6, y7, y8, y9]
      exact ⟨HO3.out, .inl ⟨HC2.out, rfl⟩⟩
end Go.Proofs.YteklfkpeaadinaaGreatDoor.S
