/-
  Package subframe: a channel, read.
-/
import Derived.Test.YteklfkpeaadinaaGreatDoorPBS11
import Derived.Test.YteklfkpeaadinaaGreatDoorPBS13
import Derived.Test.YteklfkpeaadinaaGreatDoorPBS15
import Derived.Test.YteklfkpeaadinaaGreatDoorPBS16
import Derived.Test.YteklfkpeaadinaaGreatDoorPBS8
import Derived.Test.YteklfkpeaadinaaGreatDoorPBG12
namespace Go.Proofs.YteklfkpeaadinaaGreatDoor.S
open Go.RowKit Go.Shelf
open K (linV rstV region_gho andV notYet)
/-- a number that is multiplied -/
def mul2 (wd : Nat) (x : Int) : Int := x * 2 ^ wd
/-- residuals can be read, and restored -/
def RcOk (bs : List Nat) (a b o dp : Nat) (P S : Int) (C fs : List Int) (m ro : Int) (ps ws ys : List Int) (a' : Nat) : Prop :=
  ∃ (m' ro' : Nat) (rs : List (Int × Int × List Int)), m = m' ∧ ro = ro' ∧ Parse bs a b o m' ro' rs a' ∧ ps = rs.map (·.1) ∧ ws = rs.map (·.2.1) ∧ RsOk P S C dp fs (rs.map (·.2.2)).flatten ∧ ys = rstV P S C fs (rs.map (·.2.2)).flatten
/-- what stands behind the samples can be read -/
def RtOk (bs : List Nat) (a b dp k o : Nat) (fs : List Int) (lp ls : Int) (cs : List Int) (m ro : Int) (ps ws ys : List Int) (a' : Nat) : Prop :=
  (k = 0 ∧ lp = 0 ∧ ls = 0 ∧ cs = [] ∧ m = 0 ∧ ro = 0 ∧ ps = [] ∧ ws = [] ∧ ys = List.replicate b (fs.getD 0 0) ∧ a' = a) ∨
  (k = 1 ∧ lp = 0 ∧ ls = 0 ∧ cs = [] ∧ m = 0 ∧ ro = 0 ∧ ps = [] ∧ ws = [] ∧ ys = fs ∧ a' = a) ∨
  (k = 2 ∧ lp = 0 ∧ ls = 0 ∧ cs = [] ∧ RcOk bs a b o dp 4 0 (K.fx o) fs m ro ps ws ys a') ∨
  (k = 3 ∧ ∃ (P a3 : Nat), lp = P ∧ LnOk bs a o P ls cs a3 ∧ RcOk bs a3 b o dp lp ls cs fs m ro ps ws ys a')
/-- a channel can be read -/
def ChOk (bs : List Nat) (a b d k o wd : Nat) (lp ls : Int) (cs : List Int) (m ro : Int) (ps ws xs : List Int) (a' : Nat) : Prop :=
  ∃ (a1 : Nat) (ys : List Int), CdOk bs a k o ∧ WsOk bs (a + 7) d wd a1 ∧ a1 + (plM k o b).toNat * (d - wd) ≤ 8 * bs.length ∧
    RtOk bs (a1 + (plM k o b).toNat * (d - wd)) b (d - wd) k o (smV bs a1 (plM k o b).toNat (d - wd)) lp ls cs m ro ps ws ys a' ∧ xs = ys.map (mul2 wd)
/-- a slice of numbers, which lie among numbers -/
structure ISb (w : World) (v : Value) (xs : List Int) : Prop where
  src : ISrc w v xs
  blk : ∀ ad n c, v = .slice (some ad) n c → ∃ cs, Box w ad.block 3 cs
theorem ISb.nix {w w' : World} {v : Value} {xs : List Int} (h : ISb w v xs) (ho : Only Nix w w') : ISb w' v xs :=
  ⟨h.src.nix ho, fun ad n c e => by
    obtain ⟨cs, hb⟩ := h.blk ad n c e
    exact ⟨cs, hb.only ho (fun e => e)⟩⟩
theorem ISb.nil (w : World) : ISb w (.slice none 0 0) [] := ⟨K.isrc_nil w, fun ad n c e => by cases e⟩
theorem ISb.mk' {w : World} {g n c : Nat} {xs : List Int} (h : ISrc w (.slice (some ⟨g, 0, none⟩) n c) xs) {cs : Array Value} (hb : Box w g 3 cs) : ISb w (.slice (some ⟨g, 0, none⟩) n c) xs :=
  ⟨h, fun ad n' c' e => by
    injection e with e1
    injection e1 with e1
    subst e1
    exact ⟨cs, hb⟩⟩
theorem ISb.of_box {w : World} {g n : Nat} {xs : List Int} (h : Box w g 3 (xs.map iv).toArray) (hn : xs.length = n) (hs : xs.length ≤ 140737488355328) (hf : ∀ x ∈ xs, -9223372036854775808 ≤ x ∧ x ≤ 9223372036854775807) : ISb w (.slice (some ⟨g, 0, none⟩) n n) xs :=
  ISb.mk' (ISrc.of_box (t := 3) h hn (Nat.le_refl _) hs hf) h
/-- another block turns -/
theorem ISb.only {w w' : World} {v : Value} {xs : List Int} (h : ISb w v xs) {N : Nat} {t : TypeId} {cs : Array Value} (hN : Box w N t cs) (ht : 3 ≠ t) (ho : Only (Just N) w w') : ISb w' v xs := by
  have hne : ∀ ad n c, v = .slice (some ad) n c → ad.block ≠ N := fun ad n c e => by
    obtain ⟨cs', hb⟩ := h.blk ad n c e
    exact hb.type_ne hN ht
  refine ⟨h.src.only ho (fun i _ hF ad n c e _ => by cases hF; exact hne ad n c e), fun ad n c e => ?_⟩
  obtain ⟨cs', hb⟩ := h.blk ad n c e
  exact ⟨cs', hb.only ho (fun e2 => hne ad n c e e2)⟩
/-- what channel answers -/
def ChR (w : World) (r : Nat) (v : Value) (bs : List Nat) (a b d : Nat) (e : Ending) (w' : World) : Prop :=
  (∃ (va : Value) (cells : Array Value) (E : Int) (a' : Nat), e = .returned (.tuple #[va, .agg cells, iv E]) ∧ cells.size = 10 ∧ cells.all (·.oneCell') = true ∧ (E = 10 ∨ E = 11 ∨ E = 12 ∨ E = 13) ∧ Rd w' r v bs a' ∧ Only (Just r) w w' ∧ ∀ k o wd lp ls cs m ro ps ws xs a', ¬ ChOk bs a b d k o wd lp ls cs m ro ps ws xs a') ∨
  (∃ (k o wd : Nat) (lp ls : Int) (cs : List Int) (m ro : Int) (ps ws xs : List Int) (a' : Nat) (A Ac Ap Ab : Option Addr) (n c nc cc np cp nb cb : Nat), e = .returned (.tuple #[.slice A n c, spV k o wd lp ls (.slice Ac nc cc) m ro (.slice Ap np cp) (.slice Ab nb cb), iv 0]) ∧
    ChOk bs a b d k o wd lp ls cs m ro ps ws xs a' ∧ ISb w' (.slice A n c) xs ∧ ISb w' (.slice Ac nc cc) cs ∧ ISb w' (.slice Ap np cp) ps ∧ ISb w' (.slice Ab nb cb) ws ∧ Rd w' r v bs a' ∧ Only (Just r) w w')
theorem cd_det {bs : List Nat} {a k o k' o' : Nat} (h : CdOk bs a k o) (h' : CdOk bs a k' o') : k = k' ∧ o = o' := by
  have := h.2.2.2.symm.trans h'.2.2.2
  injection this with this
  injection this with e1 e2
  exact ⟨e1, e2⟩
theorem ws_det {bs : List Nat} {a d x a1 y a2 : Nat} (h : WsOk bs a d x a1) (h' : WsOk bs a d y a2) : x = y ∧ a1 = a2 := by
  rcases h.2 with ⟨e1, e2, e3⟩ | ⟨e1, e2, e3, e4, e5⟩ <;> rcases h'.2 with ⟨g1, g2, g3⟩ | ⟨g1, g2, g3, g4, g5⟩
  · exact ⟨by omega, by omega⟩
  · exact absurd e1 g1
  · exact absurd g1 e1
  · exact ⟨by omega, by omega⟩
theorem signR_fits (bs : List Nat) (a dep : Nat) : -(2 ^ dep : Int) ≤ signR bs a dep ∧ signR bs a dep ≤ (2 ^ dep : Int) := by
  have h := numAt_lt bs a dep
  have h2 : ((numAt bs a dep : Nat) : Int) < (2 ^ dep : Int) := by exact_mod_cast h
  have h0 : (0 : Int) ≤ ((numAt bs a dep : Nat) : Int) := Int.natCast_nonneg _
  unfold signR
  rw [Int.toNat_natCast]
  have h3 : (0 : Int) ≤ 2 ^ dep := Int.pow_nonneg (by omega)
  split
  · split
    · rename_i h4
      generalize ((numAt bs a dep : Nat) : Int) = q at *
      generalize (2 : Int) ^ dep = p at *
      constructor <;> omega
    · generalize ((numAt bs a dep : Nat) : Int) = q at *
      generalize (2 : Int) ^ dep = p at *
      constructor <;> omega
  · generalize (2 : Int) ^ dep = p at *
    constructor <;> omega
theorem smV_fits {bs : List Nat} {a n dep : Nat} {x : Int} (hx : x ∈ smV bs a n dep) : -(2 ^ dep : Int) ≤ x ∧ x ≤ (2 ^ dep : Int) := by
  unfold smV at hx
  obtain ⟨j, _, rfl⟩ := List.mem_map.1 hx
  exact signR_fits bs _ dep
theorem mul2_fits {wd dp : Nat} {x : Int} (h : dp + wd ≤ 33) (h1 : -(2 ^ dp : Int) ≤ x) (h2 : x ≤ (2 ^ dp : Int)) : -8589934592 ≤ mul2 wd x ∧ mul2 wd x ≤ 8589934592 := by
  have hp : (2 : Int) ^ dp * 2 ^ wd ≤ 8589934592 := by
    rw [← Int.pow_add]
    have : (2 : Nat) ^ (dp + wd) ≤ 2 ^ 33 := Nat.pow_le_pow_right (by omega) h
    have h3 : (2 : Int) ^ (dp + wd) ≤ 2 ^ 33 := by exact_mod_cast this
    exact h3
  have h0 : (0 : Int) ≤ 2 ^ wd := Int.pow_nonneg (by omega)
  have h3 := Int.mul_le_mul_of_nonneg_right h1 h0
  have h4 := Int.mul_le_mul_of_nonneg_right h2 h0
  rw [Int.neg_mul] at h3
  unfold mul2
  omega
/-- so many numbers, multiplied -/
def TlP (W : World) (gl : Nat) (f : Int → Int) (ys : List Int) (N : Nat) (s : Value) (wr : World) : Prop :=
  ∃ j : Nat, j ≤ N ∧ s = iv j ∧ Box wr gl 3 ((upTo f ys j).map iv).toArray ∧ Only (Just gl) W wr
/-- no number is multiplied -/
def TnP (W : World) (s : Value) (wr : World) : Prop := s = iv 0 ∧ W = wr
theorem isrc_just {w w' : World} {g N n c : Nat} {xs : List Int} (h : ISb w (.slice (some ⟨g, 0, none⟩) n c) xs) (ho : Only (Just N) w w') (hg : g ≠ N) : ISb w' (.slice (some ⟨g, 0, none⟩) n c) xs := by
  have hne : ∀ ad n' c', Value.slice (some ⟨g, 0, none⟩) n c = .slice (some ad) n' c' → ad.block ≠ N := fun ad n' c' e => by
    injection e with e1
    injection e1 with e1
    subst e1
    exact hg
  refine ⟨h.src.only ho (fun i _ hF ad n c e _ => by cases hF; exact hne ad n c e), fun ad n c e => ?_⟩
  obtain ⟨cs, hb⟩ := h.blk ad n c e
  exact ⟨cs, hb.only ho (fun e2 => hne ad n c e e2)⟩
theorem box_ne {w : World} {g b : Nat} {t t' : TypeId} {cs cs' : Array Value} (h1 : Box w g t cs) (h2 : Box w b t' cs') (ht : t ≠ t') : g ≠ b := by
  intro e
  subst e
  unfold Box at h1 h2
  rw [h1] at h2
  injection h2 with h2
  injection h2 with _ h2
  exact ht h2
theorem Tryz.size_rplan : (Tryz.prog.info? 26).map (·.size) = some 4 := by kernel_rfl
theorem set_ivs (l : List Int) (j : Nat) (y : Int) : (l.map iv).toArray.setIfInBounds j (iv y) = ((l.set j y).map iv).toArray := by
  rw [List.setIfInBounds_toArray, List.map_set]
theorem kOf_some {c k o : Nat} (h : kOf c = some (k, o)) : o ≤ 32 ∧ k < 4 ∧ (k = 2 → o ≤ 4) ∧ (k = 3 → 1 ≤ o) := by
  unfold kOf at h
  split at h
  · injection h with h; injection h with h1 h2; omega
  · split at h
    · injection h with h; injection h with h1 h2; omega
    · split at h
      · injection h with h; injection h with h1 h2; omega
      · split at h
        · injection h with h; injection h with h1 h2; omega
        · cases h
theorem LnOk.det {bs : List Nat} {a o P P' : Nat} {S S' : Int} {cs cs' : List Int} {a1 a2 : Nat} (h : LnOk bs a o P S cs a1) (g : LnOk bs a o P' S' cs' a2) : P = P' ∧ S = S' ∧ cs = cs' ∧ a1 = a2 := by
  obtain ⟨_, _, rfl, _, rfl, _, _, rfl, rfl⟩ := h
  obtain ⟨_, _, rfl, _, rfl, _, _, rfl, rfl⟩ := g
  exact ⟨rfl, rfl, rfl, rfl⟩
theorem pow_pred_le {dp : Nat} {x : Int} (h1 : -((2 : Int) ^ (dp - 1)) ≤ x) (h2 : x < (2 : Int) ^ (dp - 1)) : -(2 ^ dp : Int) ≤ x ∧ x ≤ (2 ^ dp : Int) := by
  have h3 : (2 : Nat) ^ (dp - 1) ≤ 2 ^ dp := Nat.pow_le_pow_right (by omega) (by omega)
  have h4 : (2 : Int) ^ (dp - 1) ≤ 2 ^ dp := by exact_mod_cast h3
  omega
theorem mul2_all {wd dp : Nat} {ys : List Int} (h : dp + wd ≤ 33) (hf : ∀ x ∈ ys, -(2 ^ dp : Int) ≤ x ∧ x ≤ (2 ^ dp : Int)) : ∀ x ∈ ys.map (mul2 wd), -9223372036854775808 ≤ x ∧ x ≤ 9223372036854775807 := by
  intro x hx
  obtain ⟨y, hy, rfl⟩ := List.mem_map.1 hx
  have := hf y hy
  have := mul2_fits h this.1 this.2
  omega
/-- rice.Read, with what the numbers are -/
def RrR (w : World) (r : Nat) (v : Value) (bs : List Nat) (a b s : Nat) (e : Ending) (w' : World) : Prop :=
  (∃ E : Int, e = .returned (.tuple #[.slice none 0 0, plan0, iv E]) ∧ (E = 10 ∨ E = 11 ∨ E = 12 ∨ E = 13) ∧ Rd w' r v bs a ∧ Only (Just r) w w' ∧ ∀ m o rs a', ¬ Parse bs a b s m o rs a') ∨
  (∃ (m o gp gb g Q : Nat) (rs : List (Int × Int × List Int)) (a' : Nat), e = .returned (.tuple #[.slice (some ⟨g, 0, none⟩) (b - s) (b - s), planV m o (.slice (some ⟨gp, 0, none⟩) Q Q) (.slice (some ⟨gb, 0, none⟩) Q Q), iv 0]) ∧ Parse bs a b s m o rs a' ∧
    ISrc w' (.slice (some ⟨gp, 0, none⟩) Q Q) (rs.map (·.1)) ∧ ISrc w' (.slice (some ⟨gb, 0, none⟩) Q Q) (rs.map (·.2.1)) ∧ ISrc w' (.slice (some ⟨g, 0, none⟩) (b - s) (b - s)) (rs.map (·.2.2)).flatten ∧ (∃ cs, Box w' gp 3 cs) ∧ (∃ cs, Box w' gb 3 cs) ∧ (∃ cs, Box w' g 3 cs) ∧ Rd w' r v bs a' ∧ Only (Just r) w w')
theorem rread_any {w : World} {r : Nat} {v : Value} {bs : List Nat} {a : Nat} (hR : Rd w r v bs a) (b s : Nat) (h : ckB b s = 0) :
    Calls Tryz.prog 83 #[.pointer (some ⟨r, 0, none⟩), iv b, iv s] w fun e w' => RrR w r v bs a b s e w' := by
  refine (read_any hR b s h).mono ?_
  rintro e w' (⟨E, rfl, hE, hR', ho, hn⟩ | ⟨m, o, gp, gb, g, rs, a', rfl, hp, bp, bb, bg, hR', ho⟩)
  · exact .inl ⟨E, rfl, hE, hR', ho, hn⟩
  · obtain ⟨l, hl, hF, hn, hpt, hS, ha, hr⟩ := block_forth h hp
    obtain ⟨b1, b2, _, b4⟩ := ckB_zero h
    have hpp : 0 < 2 ^ o := Nat.two_pow_pos o
    have hlt := hF.lt
    have heq := hF.eq
    have hbs : s ≤ b := by
      have := Nat.div_le_self b (2 ^ o)
      omega
    have hPb : 2 ^ o ≤ b := by
      have h1 : 2 ^ o * 1 ≤ 2 ^ o * (b / 2 ^ o) := Nat.mul_le_mul_left _ (by omega)
      rw [heq, hn] at h1
      omega
    have fitP : ∀ k, (k1 : k < (rs.map (·.1)).length) → (k2 : k < (rs.map (·.2.1)).length) → isP m (rs.map (·.1))[k] (rs.map (·.2.1))[k] := hF.all
    have m1 := hF.m1
    have kp := bp
    have kb := bb
    have kg := bg
    refine .inr ⟨m, o, gp, gb, g, 2 ^ o, rs, a', rfl, hp, ?_, ?_, ?_, ⟨_, kp⟩, ⟨_, kb⟩, ⟨_, kg⟩, hR', ho⟩
    · rw [setAll_all _ _ _ (by simp [hr]) (by simp)] at bp
      refine ISrc.of_box (t := 3) bp (by simp [hr]) (Nat.le_refl _) (by rw [hF.np]; omega) (fun x hx => ?_)
      obtain ⟨k, k1, rfl⟩ := List.getElem_of_mem hx
      have := fitP k k1 (by simpa using k1)
      unfold isP at this
      omega
    · rw [setAll_all _ _ _ (by simp [hr]) (by simp)] at bb
      refine ISrc.of_box (t := 3) bb (by simp [hr]) (Nat.le_refl _) (by rw [hF.nb]; omega) (fun x hx => ?_)
      obtain ⟨k, k1, rfl⟩ := List.getElem_of_mem hx
      have := fitP k (by simpa using k1) k1
      unfold isP at this
      omega
    · rw [← hl]
      rw [← hpt, layAll_all (b / 2 ^ o) s (2 ^ o) (b - s) hlt l _ (by omega) hn (by simp)] at bg
      refine ISrc.of_box (t := 3) bg hn (Nat.le_refl _) (by omega) (fun x hx => ?_)
      have := hF.res x hx
      unfold isR at this
      omega
set_option maxRecDepth 100000 in
set_option maxHeartbeats 20000000 in
theorem channel_any {w : World} {r : Nat} {v : Value} {bs : List Nat} {a : Nat} (hR : Rd w r v bs a) (hLd : ∀ u, Only (Just r) w u → Laid u) (b d : Nat) (hb0 : 1 ≤ b) (hb : b ≤ 1000) (hd4 : 4 ≤ d) (hd : d ≤ 33) :
    Calls Tryz.prog 44 #[rdV r, iv b, iv d] w fun e w' => ChR w r v bs a b d e w' := by
  have hrw := hR.mem
  obtain ⟨Wa, hWa⟩ : ∃ Wa, (w.alloc (.cells #[.pointer (some ⟨r, 0, none⟩)] 89)).alloc (.cells zC 28) = Wa := ⟨_, rfl⟩
  have a0 := ((Only.refl Nix w).alloc (.cells #[.pointer (some ⟨r, 0, none⟩)] 89)).alloc (.cells zC 28)
  have br := (Box.new w 89 #[.pointer (some ⟨r, 0, none⟩)]).alloc (.cells zC 28)
  have bq := Box.new (w.alloc (.cells #[.pointer (some ⟨r, 0, none⟩)] 89)) 28 zC
  rw [World.size_alloc] at bq
  rw [hWa] at a0 br bq
  have hnr : w.heap.size ≠ r := by omega
  have hnq : w.heap.size + 1 ≠ r := by omega
  have HCd := Lib.hid (code_any (hR.nix a0) (fun u hu => hLd u (a0.nix.trans hu)))
  have HA := Lib.hid a0
  have HBr := Lib.hid br
  have HBq := Lib.hid bq
  have d0 := br.cell 0
  simp only [List.getElem?_toArray, List.getElem?_cons_zero, List.getElem?_cons_succ] at d0
  clear a0 br bq hR hLd
  go_enter Tryz.func44, Tryz.ntmps44
  go_wp2
  go_step3
  go_wp2_with fail
  refine (HCd.out).mono ?_
  rintro e w1 (⟨E, a1, rfl, hE, hR1, o1, hno⟩ | ⟨k, o, rfl, hok, hR1, o1⟩)
  · have HBq1 := Lib.hid (HBq.out.only o1 (fun e => hnq e))
    have HR1 := Lib.hid hR1
    have HO1 := Lib.hid ((HA.out.nix (F := Just r)).trans o1)
    have HNo := Lib.hid hno
    have HE := Lib.hid hE
    have hE0 : (E != 0) = true := by rcases hE with rfl | rfl | rfl <;> rfl
    have hs1 := HO1.out.size
    have hbn := HBq1.out.lt
    clear hR1 o1 hno hE d0 HCd
    go_wp2_with (refine wpList_store_row rfl 28 (.tmp 9) (.tmp 17) rfl rfl w1.heap.size 28 zC (zC) rfl rfl (Box.new w1 _ _) Tryz.size_plan rfl (spC_one _ _ _ _ _ _ _ _ _ _ _ _ _ _ _ _) ?st)
    case st =>
      intro w2 hb2 ho2
      have o12 : Only Nix w1 w2 := ((Only.refl Nix w1).alloc _).then ho2 (fun i e => .inr (by cases e; exact Nat.le_refl _))
      have HBq2 := Lib.hid (HBq1.out.only o12 (fun e => e))
      have HR2 := Lib.hid (HR1.out.nix o12)
      have HO2 := Lib.hid (HO1.out.trans o12.nix)
      have p0 := hb2.cell 0
      have p1 := hb2.cell 1
      have p2 := hb2.cell 2
      have p3 := hb2.cell 3
      have p4 := hb2.cell 4
      have p5 := hb2.cell 5
      have p6 := hb2.cell 6
      have p7 := hb2.cell 7
      have p8 := hb2.cell 8
      have p9 := hb2.cell 9
      simp only [List.getElem?_toArray, List.getElem?_cons_zero, List.getElem?_cons_succ] at p0 p1 p2 p3 p4 p5 p6 p7 p8 p9
      clear hb2 ho2 o12
      go_wp2_with fail
      have noOutX : ∀ j s, j < 5 → (([some 21, some 22, some 6, none, some 8] : List (Option Nat)).all fun d => d != some s) = true → ([some 21, some 22, some 6, none, some 8] : List (Option Nat)).getD j none ≠ some s := by
        intro j s hj ha e
        rw [List.getD_eq_getElem?_getD, List.getElem?_eq_getElem (by exact hj), Option.getD_some] at e
        have := List.all_eq_true.1 ha _ (List.getElem_mem (by exact hj))
        rw [e] at this
        simp at this
      refine region_val (by kernel_rfl) (fun k0 => ([some 21, some 22, some 6, none, some 8] : List (Option Nat)).getD k0 none) (fun k0 => ([(.agg (zC)), (iv E), (.slice none 0 0), (undef), (iv E)] : List Value).getD k0 undef) (CaW 3 w2 (fun u => Box u (w.heap.size + 1) 28 (zC) ∧ Only (Just (w.heap.size + 1)) w2 u)) 110 5 rfl (by kernel_rfl) (by kernel_rfl) rfl (by kernel_rfl) (by kernel_rfl) ⟨fun _ => ⟨1, rfl⟩, fun e => by cases e⟩ ?stepsX [(21, .agg (zC)), (22, iv E), (6, .slice none 0 0), (8, iv E)] rfl ?doneX
      case stepsX =>
        refine ⟨?_, ?_, ?_, ?_, ?_, trivial⟩
        · intro L A' u hW hL0 hnd K' hK
          have r9 : A'.tmps[9]? = some (.pointer (some ⟨w1.heap.size, 0, none⟩)) := (hW.out 9 (fun j hj => noOutX j 9 hj (by kernel_rfl))).trans rfl
          have n3 : L 3 = false := notYet hW.closed (j := 3) (by rfl) (k := 0) (by kernel_rfl) hL0
          obtain ⟨kk, rfl⟩ := hW.wi.no n3
          go_simp
          exact hK _ (hW.wi.same (by decide))
        · intro L A' u hW hL0 hnd K' hK
          have r10 : A'.tmps[10]? = some (iv E) := (hW.out 10 (fun j hj => noOutX j 10 hj (by kernel_rfl))).trans rfl
          go_simp
          exact hK _ (hW.wi.same (by decide))
        · intro L A' u hW hL0 hnd K' hK
          go_simp
          exact hK _ (hW.wi.same (by decide))
        · intro L A' u hW hL0 hnd K' hK
          have r7 : A'.tmps[7]? = some (.pointer (some ⟨w.heap.size + 1, 0, none⟩)) := (hW.out 7 (fun j hj => noOutX j 7 hj (by kernel_rfl))).trans rfl
          have r21 : A'.tmps[21]? = some (.agg (zC)) := hW.val 0 21 (by decide) (hnd 0 (by kernel_rfl)) rfl
          obtain ⟨kk, rfl⟩ := hW.wi.no hL0
          refine step_store_row rfl 28 (.tmp 7) (.tmp 21) rfl rfl (w.heap.size + 1) 28 zC (zC) (by simp [Act.eval, r7]) (by simp [Act.eval, r21]) (HBq2.out.drewN kk) Tryz.size_plan rfl (spC_one _ _ _ _ _ _ _ _ _ _ _ _ _ _ _ _) ?_
          intro u' hb' ho'
          exact hK _ (CaW.made ⟨hb', ⟨ho'.os, ho'.tape, ho'.output, ho'.size, ho'.block⟩⟩)
        · intro L A' u hW hL0 hnd K' hK
          have r22 : A'.tmps[22]? = some (iv E) := hW.val 1 22 (by decide) (hnd 1 (by kernel_rfl)) rfl
          go_simp
          exact hK _ (hW.wi.same (by decide))
      case doneX =>
        intro L u hWI hall
        obtain ⟨hB4, ho4⟩ := hWI.yes (hall 3 (by decide))
        clear hWI hall noOutX
        have Z1 := Lib.hid (rd_just HR2.out HBq2.out (by decide) hnq ho4)
        have Z2 := Lib.hid (only_just HO2.out ho4 (by omega))
        have y0 := hB4.cell 0
        have y1 := hB4.cell 1
        have y2 := hB4.cell 2
        have y3 := hB4.cell 3
        have y4 := hB4.cell 4
        have y5 := hB4.cell 5
        have y6 := hB4.cell 6
        have y7 := hB4.cell 7
        have y8 := hB4.cell 8
        have y9 := hB4.cell 9
        simp only [List.getElem?_toArray, List.getElem?_cons_zero, List.getElem?_cons_succ] at y0 y1 y2 y3 y4 y5 y6 y7 y8 y9
        clear hB4 ho4
        simp only [putV, List.foldl_cons, List.foldl_nil, List.setIfInBounds_toArray, List.set_cons_zero, List.set_cons_succ]
        go_wp2
        refine bodyPost_ret (v := .tuple #[.slice none 0 0, zP, iv E]) ?_ rfl ?_
        · simp [results, Tryz.f44, go_sem, y0, y1, y2, y3, y4, y5, y6, y7, y8, y9]
        exact .inl ⟨_, _, E, _, rfl, rfl, (spC_one _ _ _ _ _ _ _ _ _ _ _ _ _ _ _ _), by rcases HE.out with h | h | h <;> omega, Z1.out, Z2.out, fun k o wd lp ls cs m ro ps ws xs a' ⟨_, _, h, _⟩ => HNo.out k o h⟩
  · have HBr1 := Lib.hid (HBr.out.only o1 (fun e => hnr e))
    have HBq1 := Lib.hid (HBq.out.only o1 (fun e => hnq e))
    have HR1 := Lib.hid hR1
    have HO1 := Lib.hid ((HA.out.nix (F := Just r)).trans o1)
    have HCk := Lib.hid hok
    have hs1 := HO1.out.size
    have hbn := HBq1.out.lt
    clear hR1 o1 hok d0 HCd
    go_wp2_with (refine wpList_store_row rfl 28 (.tmp 9) (.tmp 17) rfl rfl w1.heap.size 28 zC (spC k o 0 0 0 (.slice none 0 0) 0 0 (.slice none 0 0) (.slice none 0 0)) rfl rfl (Box.new w1 _ _) Tryz.size_plan rfl (spC_one _ _ _ _ _ _ _ _ _ _ _ _ _ _ _ _) ?st)
    case st =>
      intro w2 hb2 ho2
      have o12 : Only Nix w1 w2 := ((Only.refl Nix w1).alloc _).then ho2 (fun i e => .inr (by cases e; exact Nat.le_refl _))
      have HBr2 := Lib.hid (HBr1.out.only o12 (fun e => e))
      have HBq2 := Lib.hid (HBq1.out.only o12 (fun e => e))
      have HBp2 := Lib.hid hb2
      have HR2 := Lib.hid (HR1.out.nix o12)
      have HO2 := Lib.hid (HO1.out.trans o12.nix)
      have hnp : w1.heap.size ≠ r := by omega
      have hpq : w.heap.size + 1 ≠ w1.heap.size := by omega
      have hpr : w.heap.size ≠ w1.heap.size := by omega
      have d0 := HBr2.out.cell 0
      simp only [List.getElem?_toArray, List.getElem?_cons_zero, List.getElem?_cons_succ] at d0
      clear hb2 ho2 o12 HBr1 HBq1
      have HWs := Lib.hid (wasted_any HR2.out d hd)
      go_wp2_with fail
      refine (HWs.out).mono ?_
      rintro e w3 (⟨E, a3, rfl, hE, hR3, o3, hno⟩ | ⟨wd, a3, rfl, hok, hR3, o3⟩)
      · have hBp3 := HBp2.out.only o3 (fun e => hnp e)
        have hBq3 := HBq2.out.only o3 (fun e => hnq e)
        have hBr3 := HBr2.out.only o3 (fun e => hnr e)
        have hc2 := hBp3.cell 2
        have hf2 := hBp3.frozen 2
        simp only [List.getElem?_toArray, List.getElem?_cons_zero, List.getElem?_cons_succ] at hc2
        have hbp4 := hBp3.put 2 (iv 0)
        simp only [List.setIfInBounds_toArray, List.set_cons_zero, List.set_cons_succ] at hbp4
        have oj : Only (Just w1.heap.size) w3 (w3.setCell ⟨w1.heap.size, 2, none⟩ (iv 0)) := Only.setCell (F := Just w1.heap.size) (Only.refl _ _) (p := ⟨w1.heap.size, 2, none⟩) (.inl rfl) _
        have HBp4 := Lib.hid hbp4
        have HBq4 := Lib.hid (hBq3.off (p := ⟨w1.heap.size, 2, none⟩) hpq (iv 0))
        have HBr4 := Lib.hid (hBr3.off (p := ⟨w1.heap.size, 2, none⟩) hpr (iv 0))
        have HR4 := Lib.hid (rd_just hR3 hBp3 (by decide) hnp oj)
        have HO4 := Lib.hid (only_just (HO2.out.trans o3) oj (by omega))
        clear hBp3 hBq3 hBr3 hbp4 oj hR3 o3 HWs d0
        have HNo := Lib.hid hno
        have HE := Lib.hid hE
        have hE0 : (E != 0) = true := by rcases hE with rfl | rfl <;> rfl
        clear hno hE
        go_wp2_with fail
        generalize w3.setCell ⟨w1.heap.size, 2, none⟩ (iv 0) = w4 at *
        clear hc2 hf2
        have p0 := HBp4.out.cell 0
        have p1 := HBp4.out.cell 1
        have p2 := HBp4.out.cell 2
        have p3 := HBp4.out.cell 3
        have p4 := HBp4.out.cell 4
        have p5 := HBp4.out.cell 5
        have p6 := HBp4.out.cell 6
        have p7 := HBp4.out.cell 7
        have p8 := HBp4.out.cell 8
        have p9 := HBp4.out.cell 9
        simp only [List.getElem?_toArray, List.getElem?_cons_zero, List.getElem?_cons_succ] at p0 p1 p2 p3 p4 p5 p6 p7 p8 p9
        go_wp2_with fail
        have noOutX : ∀ j s, j < 5 → (([some 32, some 33, some 6, none, some 8] : List (Option Nat)).all fun d => d != some s) = true → ([some 32, some 33, some 6, none, some 8] : List (Option Nat)).getD j none ≠ some s := by
          intro j s hj ha e
          rw [List.getD_eq_getElem?_getD, List.getElem?_eq_getElem (by exact hj), Option.getD_some] at e
          have := List.all_eq_true.1 ha _ (List.getElem_mem (by exact hj))
          rw [e] at this
          simp at this
        refine region_val (by kernel_rfl) (fun k0 => ([some 32, some 33, some 6, none, some 8] : List (Option Nat)).getD k0 none) (fun k0 => ([(.agg (spC k o 0 0 0 (.slice none 0 0) 0 0 (.slice none 0 0) (.slice none 0 0))), (iv E), (.slice none 0 0), (undef), (iv E)] : List Value).getD k0 undef) (CaW 3 w4 (fun u => Box u (w.heap.size + 1) 28 (spC k o 0 0 0 (.slice none 0 0) 0 0 (.slice none 0 0) (.slice none 0 0)) ∧ Only (Just (w.heap.size + 1)) w4 u)) 110 5 rfl (by kernel_rfl) (by kernel_rfl) rfl (by kernel_rfl) (by kernel_rfl) ⟨fun _ => ⟨1, rfl⟩, fun e => by cases e⟩ ?stepsX [(32, .agg (spC k o 0 0 0 (.slice none 0 0) 0 0 (.slice none 0 0) (.slice none 0 0))), (33, iv E), (6, .slice none 0 0), (8, iv E)] rfl ?doneX
        case stepsX =>
          refine ⟨?_, ?_, ?_, ?_, ?_, trivial⟩
          · intro L A' u hW hL0 hnd K' hK
            have r9 : A'.tmps[9]? = some (.pointer (some ⟨w1.heap.size, 0, none⟩)) := (hW.out 9 (fun j hj => noOutX j 9 hj (by kernel_rfl))).trans rfl
            have n3 : L 3 = false := notYet hW.closed (j := 3) (by rfl) (k := 0) (by kernel_rfl) hL0
            obtain ⟨kk, rfl⟩ := hW.wi.no n3
            go_simp
            exact hK _ (hW.wi.same (by decide))
          · intro L A' u hW hL0 hnd K' hK
            have r10 : A'.tmps[10]? = some (iv E) := (hW.out 10 (fun j hj => noOutX j 10 hj (by kernel_rfl))).trans rfl
            go_simp
            exact hK _ (hW.wi.same (by decide))
          · intro L A' u hW hL0 hnd K' hK
            go_simp
            exact hK _ (hW.wi.same (by decide))
          · intro L A' u hW hL0 hnd K' hK
            have r7 : A'.tmps[7]? = some (.pointer (some ⟨w.heap.size + 1, 0, none⟩)) := (hW.out 7 (fun j hj => noOutX j 7 hj (by kernel_rfl))).trans rfl
            have r32 : A'.tmps[32]? = some (.agg (spC k o 0 0 0 (.slice none 0 0) 0 0 (.slice none 0 0) (.slice none 0 0))) := hW.val 0 32 (by decide) (hnd 0 (by kernel_rfl)) rfl
            obtain ⟨kk, rfl⟩ := hW.wi.no hL0
            refine step_store_row rfl 28 (.tmp 7) (.tmp 32) rfl rfl (w.heap.size + 1) 28 zC (spC k o 0 0 0 (.slice none 0 0) 0 0 (.slice none 0 0) (.slice none 0 0)) (by simp [Act.eval, r7]) (by simp [Act.eval, r32]) (HBq4.out.drewN kk) Tryz.size_plan rfl (spC_one _ _ _ _ _ _ _ _ _ _ _ _ _ _ _ _) ?_
            intro u' hb' ho'
            exact hK _ (CaW.made ⟨hb', ⟨ho'.os, ho'.tape, ho'.output, ho'.size, ho'.block⟩⟩)
          · intro L A' u hW hL0 hnd K' hK
            have r33 : A'.tmps[33]? = some (iv E) := hW.val 1 33 (by decide) (hnd 1 (by kernel_rfl)) rfl
            go_simp
            exact hK _ (hW.wi.same (by decide))
        case doneX =>
          intro L u hWI hall
          obtain ⟨hB4, ho4⟩ := hWI.yes (hall 3 (by decide))
          clear hWI hall noOutX
          have Z1 := Lib.hid (rd_just HR4.out HBq4.out (by decide) hnq ho4)
          have Z2 := Lib.hid (only_just HO4.out ho4 (by omega))
          have y0 := hB4.cell 0
          have y1 := hB4.cell 1
          have y2 := hB4.cell 2
          have y3 := hB4.cell 3
          have y4 := hB4.cell 4
          have y5 := hB4.cell 5
          have y6 := hB4.cell 6
          have y7 := hB4.cell 7
          have y8 := hB4.cell 8
          have y9 := hB4.cell 9
          simp only [List.getElem?_toArray, List.getElem?_cons_zero, List.getElem?_cons_succ] at y0 y1 y2 y3 y4 y5 y6 y7 y8 y9
          clear hB4 ho4
          simp only [putV, List.foldl_cons, List.foldl_nil, List.setIfInBounds_toArray, List.set_cons_zero, List.set_cons_succ]
          go_wp2
          refine bodyPost_ret (v := .tuple #[.slice none 0 0, spV k o 0 0 0 (.slice none 0 0) 0 0 (.slice none 0 0) (.slice none 0 0), iv E]) ?_ rfl ?_
          · simp [results, Tryz.f44, go_sem, y0, y1, y2, y3, y4, y5, y6, y7, y8, y9]
          exact .inl ⟨_, _, E, _, rfl, rfl, (spC_one _ _ _ _ _ _ _ _ _ _ _ _ _ _ _ _), by rcases HE.out with h | h <;> omega, Z1.out, Z2.out, fun k o wd lp ls cs m ro ps ws xs a' ⟨a1, _, _, h, _⟩ => HNo.out wd a1 h⟩
      · have hBp3 := HBp2.out.only o3 (fun e => hnp e)
        have hBq3 := HBq2.out.only o3 (fun e => hnq e)
        have hBr3 := HBr2.out.only o3 (fun e => hnr e)
        have hc2 := hBp3.cell 2
        have hf2 := hBp3.frozen 2
        simp only [List.getElem?_toArray, List.getElem?_cons_zero, List.getElem?_cons_succ] at hc2
        have hbp4 := hBp3.put 2 (iv wd)
        simp only [List.setIfInBounds_toArray, List.set_cons_zero, List.set_cons_succ] at hbp4
        have oj : Only (Just w1.heap.size) w3 (w3.setCell ⟨w1.heap.size, 2, none⟩ (iv wd)) := Only.setCell (F := Just w1.heap.size) (Only.refl _ _) (p := ⟨w1.heap.size, 2, none⟩) (.inl rfl) _
        have HBp4 := Lib.hid hbp4
        have HBq4 := Lib.hid (hBq3.off (p := ⟨w1.heap.size, 2, none⟩) hpq (iv wd))
        have HBr4 := Lib.hid (hBr3.off (p := ⟨w1.heap.size, 2, none⟩) hpr (iv wd))
        have HR4 := Lib.hid (rd_just hR3 hBp3 (by decide) hnp oj)
        have HO4 := Lib.hid (only_just (HO2.out.trans o3) oj (by omega))
        clear hBp3 hBq3 hBr3 hbp4 oj hR3 o3 HWs d0
        have HWk := Lib.hid hok
        have hwd : wd < d := by
          rcases hok.2 with ⟨_, h, _⟩ | ⟨_, _, _, h, _⟩ <;> omega
        have hdw : (d : Int) - (wd : Int) = ((d - wd : Nat) : Int) := by omega
        obtain ⟨dp, hdp⟩ : ∃ dp, d - wd = dp := ⟨_, rfl⟩
        rw [hdp] at hdw
        have hdp1 : 1 ≤ dp := by omega
        have hdp2 : dp ≤ 33 := by omega
        have Hdp := Lib.hid hdp
        -- how many samples stand as they are
        have hko : o ≤ 32 ∧ k < 4 := by
          have h := HCk.out.2.2.2
          unfold kOf at h
          split at h
          · injection h with h; injection h with h1 h2; omega
          · split at h
            · injection h with h; injection h with h1 h2; omega
            · split at h
              · injection h with h; injection h with h1 h2; omega
              · split at h
                · injection h with h; injection h with h1 h2; omega
                · cases h
        obtain ⟨ho32, hk4⟩ := hko
        have hn : ∃ n : Nat, plM k o b = (n : Int) ∧ n ≤ 1000 := by
          unfold plM
          split
          · exact ⟨1, rfl, by omega⟩
          · split
            · exact ⟨b, rfl, hb⟩
            · exact ⟨o, rfl, by omega⟩
        obtain ⟨n, hn, hn2⟩ := hn
        have Hn := Lib.hid hn
        clear hok hdp
        go_wp2_with fail
        generalize w3.setCell ⟨w1.heap.size, 2, none⟩ (iv wd) = w4 at *
        clear hc2 hf2
        have HPm : Hid (∀ u, Calls Tryz.prog 67 #[spV k o wd 0 0 (.slice none 0 0) 0 0 (.slice none 0 0) (.slice none 0 0), iv b] u fun e w' => e = .returned (iv n) ∧ Only Nix u w') := Lib.hid (fun u => by rw [← hn]; exact plainMany_any u k o wd 0 0 (.slice none 0 0) 0 0 (.slice none 0 0) (.slice none 0 0) b)
        have HSm : Hid (∀ u, Only Nix w4 u → Calls Tryz.prog 81 #[rdV r, iv n, iv dp] u fun e w' => SmR u r v bs a3 n dp e w') := Lib.hid (fun u hu => samples_any (HR4.out.nix hu) n dp (by omega) (by omega))
        have HrB := Lib.hid (HBr4.out.cell 0)
        clear hn
        by_cases hle : a3 + n * dp ≤ 8 * bs.length
        · have rb0 := HrB.out
          simp only [List.getElem?_toArray, List.getElem?_cons_zero] at rb0
          have p0 := HBp4.out.cell 0
          have p1 := HBp4.out.cell 1
          have p2 := HBp4.out.cell 2
          have p3 := HBp4.out.cell 3
          have p4 := HBp4.out.cell 4
          have p5 := HBp4.out.cell 5
          have p6 := HBp4.out.cell 6
          have p7 := HBp4.out.cell 7
          have p8 := HBp4.out.cell 8
          have p9 := HBp4.out.cell 9
          simp only [List.getElem?_toArray, List.getElem?_cons_zero, List.getElem?_cons_succ] at p0 p1 p2 p3 p4 p5 p6 p7 p8 p9
          have noOutS : ∀ j s, j < 11 → (([some 39, some 40, some 41, some 42, some 43, some 44, some 38, some 45, some 46, some 11, some 10] : List (Option Nat)).all fun d => d != some s) = true → ([some 39, some 40, some 41, some 42, some 43, some 44, some 38, some 45, some 46, some 11, some 10] : List (Option Nat)).getD j none ≠ some s := by
            intro j s hj ha e
            rw [List.getD_eq_getElem?_getD, List.getElem?_eq_getElem (by exact hj), Option.getD_some] at e
            have := List.all_eq_true.1 ha _ (List.getElem_mem (by exact hj))
            rw [e] at this
            simp at this
          refine region_gho (by kernel_rfl) (fun k0 => ([some 39, some 40, some 41, some 42, some 43, some 44, some 38, some 45, some 46, some 11, some 10] : List (Option Nat)).getD k0 none) (fun k0 => ([some (.agg #[.pointer (some ⟨r, 0, none⟩)]), some (.agg (spC k o wd 0 0 (.slice none 0 0) 0 0 (.slice none 0 0) (.slice none 0 0))), some (iv b), some (iv n), some (iv dp), none, none, none, none, none, none] : List (Option Value)).getD k0 none) (AskW w4 n 0 (fun A c u => ∃ g, A = some ⟨g, 0, none⟩ ∧ c = n ∧ Box u g 3 ((smV bs a3 n dp).map iv).toArray ∧ w4.heap.size ≤ g ∧ Rd u r v bs (a3 + n * dp) ∧ Only (Just r) w4 u)) 110 11 rfl (by kernel_rfl) (by kernel_rfl) rfl (by kernel_rfl) (by kernel_rfl) ⟨fun _ => (Only.refl Nix _).drew, (fun e => by cases e)⟩ ?stepsS (fun vs => [(39, vs 0), (40, vs 1), (41, vs 2), (42, vs 3), (43, vs 4), (44, vs 5), (38, vs 6), (45, vs 7), (46, vs 8), (11, vs 9), (10, vs 10)]) (fun vs => rfl) ?doneS
          case stepsS =>
            refine ⟨?_, ?_, ?_, ?_, ?_, ?_, ?_, ?_, ?_, ?_, ?_, trivial⟩
            · intro L vs A' u hW hL0 hnd K' hK
              have n5 : L 5 = false := notYet hW.closed (j := 5) (by rfl) (k := 0) (by kernel_rfl) hL0
              have r3 : A'.tmps[3]? = some (.pointer (some ⟨w.heap.size, 0, none⟩)) := (hW.out 3 (fun j hj => noOutS j 3 hj (by kernel_rfl))).trans rfl
              have hc0 := cell_keep (hW.wi.low n5) rb0
              go_simp
              exact hK _ _ (fun v0 e => by cases e; rfl) (hW.wi.lo n5 (by decide) (Only.refl _ _))
            · intro L vs A' u hW hL0 hnd K' hK
              have n3 : L 3 = false := notYet hW.closed (j := 3) (by rfl) (k := 1) (by kernel_rfl) hL0
              have n5 : L 5 = false := notYet hW.closed (j := 5) (by rfl) (k := 3) (by kernel_rfl) n3
              have r9 : A'.tmps[9]? = some (.pointer (some ⟨w1.heap.size, 0, none⟩)) := (hW.out 9 (fun j hj => noOutS j 9 hj (by kernel_rfl))).trans rfl
              have hc0 := cell_keep (hW.wi.low n5) p0
              have hc1 := cell_keep (hW.wi.low n5) p1
              have hc2 := cell_keep (hW.wi.low n5) p2
              have hc3 := cell_keep (hW.wi.low n5) p3
              have hc4 := cell_keep (hW.wi.low n5) p4
              have hc5 := cell_keep (hW.wi.low n5) p5
              have hc6 := cell_keep (hW.wi.low n5) p6
              have hc7 := cell_keep (hW.wi.low n5) p7
              have hc8 := cell_keep (hW.wi.low n5) p8
              have hc9 := cell_keep (hW.wi.low n5) p9
              go_simp
              exact hK _ _ (fun v0 e => by cases e; rfl) (hW.wi.lo n5 (by decide) (Only.refl _ _))
            · intro L vs A' u hW hL0 hnd K' hK
              have n3 : L 3 = false := notYet hW.closed (j := 3) (by rfl) (k := 2) (by kernel_rfl) hL0
              have n5 : L 5 = false := notYet hW.closed (j := 5) (by rfl) (k := 3) (by kernel_rfl) n3
              have r1 : A'.tmps[1]? = some (iv b) := (hW.out 1 (fun j hj => noOutS j 1 hj (by kernel_rfl))).trans rfl
              go_simp
              exact hK _ _ (fun v0 e => by cases e; rfl) (hW.wi.lo n5 (by decide) (Only.refl _ _))
            · intro L vs A' u hW hL0 hnd K' hK
              have n5 : L 5 = false := notYet hW.closed (j := 5) (by rfl) (k := 3) (by kernel_rfl) hL0
              have r40 : A'.tmps[40]? = some (.agg (spC k o wd 0 0 (.slice none 0 0) 0 0 (.slice none 0 0) (.slice none 0 0))) := by
                have h := hW.val 1 40 (by decide) (hnd 1 (by kernel_rfl)) rfl
                rw [hW.known 1 _ (hnd 1 (by kernel_rfl)) rfl] at h
                exact h
              have r41 : A'.tmps[41]? = some (iv b) := by
                have h := hW.val 2 41 (by decide) (hnd 2 (by kernel_rfl)) rfl
                rw [hW.known 2 _ (hnd 2 (by kernel_rfl)) rfl] at h
                exact h
              have HCL := Lib.hid (HPm.out u)
              go_simp
              refine (HCL.out).mono ?_
              rintro e' u' ⟨rfl, ho'⟩
              exact hK _ _ (fun v0 e => by cases e; rfl) (hW.wi.lo n5 (by decide) ho')
            · intro L vs A' u hW hL0 hnd K' hK
              have n5 : L 5 = false := notYet hW.closed (j := 5) (by rfl) (k := 4) (by kernel_rfl) hL0
              have r2 : A'.tmps[2]? = some (iv dp) := (hW.out 2 (fun j hj => noOutS j 2 hj (by kernel_rfl))).trans rfl
              go_simp
              exact hK _ _ (fun v0 e => by cases e; rfl) (hW.wi.lo n5 (by decide) (Only.refl _ _))
            · intro L vs A' u hW hL0 hnd K' hK
              have n6 : L 6 = false := notYet hW.closed (j := 6) (by rfl) (k := 5) (by kernel_rfl) hL0
              have n7 : L 7 = false := notYet hW.closed (j := 7) (by rfl) (k := 6) (by kernel_rfl) n6
              have n9 : L 9 = false := notYet hW.closed (j := 9) (by rfl) (k := 7) (by kernel_rfl) n7
              have p6 : L 6 = false := notYet hW.closed (j := 6) (by rfl) (k := 5) (by kernel_rfl) hL0
              have p8 : L 8 = false := notYet hW.closed (j := 8) (by rfl) (k := 6) (by kernel_rfl) p6
              have p10 : L 10 = false := notYet hW.closed (j := 10) (by rfl) (k := 8) (by kernel_rfl) p8
              have r39 : A'.tmps[39]? = some (.agg #[.pointer (some ⟨r, 0, none⟩)]) := by
                have h := hW.val 0 39 (by decide) (hnd 0 (by kernel_rfl)) rfl
                rw [hW.known 0 _ (hnd 0 (by kernel_rfl)) rfl] at h
                exact h
              have r42 : A'.tmps[42]? = some (iv n) := by
                have h := hW.val 3 42 (by decide) (hnd 3 (by kernel_rfl)) rfl
                rw [hW.known 3 _ (hnd 3 (by kernel_rfl)) rfl] at h
                exact h
              have r43 : A'.tmps[43]? = some (iv dp) := by
                have h := hW.val 4 43 (by decide) (hnd 4 (by kernel_rfl)) rfl
                rw [hW.known 4 _ (hnd 4 (by kernel_rfl)) rfl] at h
                exact h
              have HCL := Lib.hid (HSm.out u (hW.wi.low hL0))
              go_simp
              refine (HCL.out).mono ?_
              rintro e' u' (⟨hlt, rfl, hR5, ho'⟩ | ⟨hle', g, rfl, hb5, hg5, hR5, ho'⟩)
              · exact absurd hle (by omega)
              · exact hK _ _ (fun v0 e => by cases e) (AskW.ask n6 n7 p8 n9 p10 (some ⟨g, 0, none⟩) n rfl ⟨g, rfl, rfl, hb5, Nat.le_trans (hW.wi.low hL0).size hg5, hR5, (hW.wi.low hL0).nix.trans ho'⟩)
            · intro L vs A' u hW hL0 hnd K' hK
              have r44 : A'.tmps[44]? = some (vs 5) := hW.val 5 44 (by decide) (hnd 5 (by kernel_rfl)) rfl
              go_simp
              exact hK _ _ (fun v0 e => by cases e) (hW.wi.s6 rfl)
            · intro L vs A' u hW hL0 hnd K' hK
              obtain ⟨A9, c9, g5, hG9, g6, g7, g8, g9, g10⟩ := hW.wi.got (hW.closed 6 _ 5 (by rfl) (hnd 6 (by kernel_rfl)) (by kernel_rfl))
              have r38 : A'.tmps[38]? = some (.tuple #[.slice A9 n c9, iv 0]) := by rw [hW.val 6 38 (by decide) (hnd 6 (by kernel_rfl)) rfl, g6 (hnd 6 (by kernel_rfl))]
              go_simp
              exact hK _ _ (fun v0 e => by cases e) (hW.wi.s7 (fun A c e => by rw [g5] at e; injection e with e; simp at e; obtain ⟨rfl, rfl⟩ := e; first | rfl | rw [hG9.1, hG9.2.1]))
            · intro L vs A' u hW hL0 hnd K' hK
              obtain ⟨A9, c9, g5, hG9, g6, g7, g8, g9, g10⟩ := hW.wi.got (hW.closed 6 _ 5 (by rfl) (hnd 6 (by kernel_rfl)) (by kernel_rfl))
              have r38 : A'.tmps[38]? = some (.tuple #[.slice A9 n c9, iv 0]) := by rw [hW.val 6 38 (by decide) (hnd 6 (by kernel_rfl)) rfl, g6 (hnd 6 (by kernel_rfl))]
              go_simp
              exact hK _ _ (fun v0 e => by cases e) (hW.wi.s8 rfl)
            · intro L vs A' u hW hL0 hnd K' hK
              have l6 := hW.closed 7 _ 6 (by rfl) (hnd 7 (by kernel_rfl)) (by kernel_rfl)
              obtain ⟨A9, c9, g5, hG9, g6, g7, g8, g9, g10⟩ := hW.wi.got (hW.closed 6 _ 5 (by rfl) l6 (by kernel_rfl))
              have r45 : A'.tmps[45]? = some (.slice A9 n c9) := by rw [hW.val 7 45 (by decide) (hnd 7 (by kernel_rfl)) rfl, g7 (hnd 7 (by kernel_rfl))]
              go_simp
              exact hK _ _ (fun v0 e => by cases e) (hW.wi.s9 (fun A c e => by rw [g5] at e; injection e with e; simp at e; obtain ⟨rfl, rfl⟩ := e; first | rfl | rw [hG9.1, hG9.2.1]))
            · intro L vs A' u hW hL0 hnd K' hK
              have l6 := hW.closed 8 _ 6 (by rfl) (hnd 8 (by kernel_rfl)) (by kernel_rfl)
              obtain ⟨A9, c9, g5, hG9, g6, g7, g8, g9, g10⟩ := hW.wi.got (hW.closed 6 _ 5 (by rfl) l6 (by kernel_rfl))
              have r46 : A'.tmps[46]? = some (iv 0) := by rw [hW.val 8 46 (by decide) (hnd 8 (by kernel_rfl)) rfl, g8 (hnd 8 (by kernel_rfl))]
              go_simp
              exact hK _ _ (fun v0 e => by cases e) (hW.wi.s10 rfl)
          case doneS =>
            intro L vs w5 hWI hkn hall
            obtain ⟨A9, c9, g5, hG9, g6, g7, g8, g9, g10⟩ := hWI.got (hall 5 (by decide))
            have g6 := g6 (hall 6 (by decide))
            have g7 := g7 (hall 7 (by decide))
            have g8 := g8 (hall 8 (by decide))
            have g9 := g9 (hall 9 (by decide))
            have g10 := g10 (hall 10 (by decide))
            have k0 := hkn 0 _ (by decide) rfl
            have k1 := hkn 1 _ (by decide) rfl
            have k2 := hkn 2 _ (by decide) rfl
            have k3 := hkn 3 _ (by decide) rfl
            have k4 := hkn 4 _ (by decide) rfl
            have HG := Lib.hid hG9
            simp only [putV, List.foldl_cons, List.foldl_nil, g5, g6, g7, g8, g9, g10, k0, k1, k2, k3, k4, List.setIfInBounds_toArray, List.set_cons_zero, List.set_cons_succ]
            clear hWI hkn hall g5 g6 g7 g8 g9 g10 k0 k1 k2 k3 k4 hG9 noOutS HSm HPm rb0 p0 p1 p2 p3 p4 p5 p6 p7 p8 p9
            obtain ⟨g, hA9, hc9, hb5, hg5, hR5, o5⟩ := HG.out
            subst hA9
            subst c9
            have HBp5 := Lib.hid (HBp4.out.only o5 (fun e => hnp e))
            have HBq5 := Lib.hid (HBq4.out.only o5 (fun e => hnq e))
            have HBr5 := Lib.hid (HBr4.out.only o5 (fun e => hnr e))
            have HO5 := Lib.hid (HO4.out.trans o5)
            have hw4 : w1.heap.size < w4.heap.size := HBp4.out.lt
            have hgw : w1.heap.size < g := by omega
            have hdwd : dp + wd ≤ 33 := by have := Hdp.out; omega
            have HKs := Lib.hid (kOf_some HCk.out.2.2.2)
            have HFf : Hid (∀ x ∈ smV bs a3 n dp, -(2 ^ dp : Int) ≤ x ∧ x ≤ (2 ^ dp : Int)) := Lib.hid (fun x hx => smV_fits hx)
            have HFl : Hid ((smV bs a3 n dp).length = n) := Lib.hid (smV_len _ _ _ _)
            have HChk : Hid (∀ lp ls cs m ro ps ws ys a', RtOk bs (a3 + n * dp) b dp k o (smV bs a3 n dp) lp ls cs m ro ps ws ys a' → ChOk bs a b d k o wd lp ls cs m ro ps ws (ys.map (mul2 wd)) a') := Lib.hid (fun lp ls cs m ro ps ws ys a' h =>
              ⟨a3, ys, HCk.out, HWk.out, by rw [Hn.out, Int.toNat_natCast, Hdp.out]; exact hle, by rw [Hn.out, Int.toNat_natCast, Hdp.out]; exact h, rfl⟩)
            have HChn : Hid (∀ k' o' wd' lp ls cs m ro ps ws xs a', ChOk bs a b d k' o' wd' lp ls cs m ro ps ws xs a' → ∃ ys, RtOk bs (a3 + n * dp) b dp k o (smV bs a3 n dp) lp ls cs m ro ps ws ys a') := Lib.hid (fun k' o' wd' lp ls cs m ro ps ws xs a' ⟨a1, ys, h1, h2, _, h4, _⟩ => by
              obtain ⟨rfl, rfl⟩ := cd_det h1 HCk.out
              obtain ⟨rfl, rfl⟩ := ws_det h2 HWk.out
              rw [Hn.out, Int.toNat_natCast, Hdp.out] at h4
              exact ⟨ys, h4⟩)
            obtain ⟨fs, hfs⟩ : ∃ fs, smV bs a3 n dp = fs := ⟨_, rfl⟩
            obtain ⟨a4, ha4⟩ : ∃ a4, a3 + n * dp = a4 := ⟨_, rfl⟩
            rw [hfs] at hb5 HFf HFl HChk HChn
            rw [ha4] at hR5 HChk HChn
            have HBl5 := Lib.hid hb5
            have HR5 := Lib.hid hR5
            have HFs : Hid (ISrc w5 (.slice (some ⟨g, 0, none⟩) n n) fs) := Lib.hid (ISrc.of_box (t := 3) hb5 HFl.out (Nat.le_refl _) (by rw [HFl.out]; omega) (fun x hx => by
              have h := HFf.out x hx
              have h2 := mul2_fits (wd := 0) (by omega : dp + 0 ≤ 33) h.1 h.2
              unfold mul2 at h2
              omega))
            clear hR5 o5 HG hle hb5 hfs ha4 HBp4 HBq4 HBr4 HR4 HO4 HrB HCk HWk
            have hk4' : k = 0 ∨ k = 1 ∨ k = 2 ∨ k = 3 := by omega
            rcases hk4' with hk | hk | hk | hk
            · have hkz : (k : Int) = 0 := by omega
              rw [hkz] at HBp5
              have p0 := HBp5.out.cell 0
              have p1 := HBp5.out.cell 1
              have p2 := HBp5.out.cell 2
              have p3 := HBp5.out.cell 3
              have p4 := HBp5.out.cell 4
              have p5 := HBp5.out.cell 5
              have p6 := HBp5.out.cell 6
              have p7 := HBp5.out.cell 7
              have p8 := HBp5.out.cell 8
              have p9 := HBp5.out.cell 9
              simp only [List.getElem?_toArray, List.getElem?_cons_zero, List.getElem?_cons_succ] at p0 p1 p2 p3 p4 p5 p6 p7 p8 p9
              have hn1 : n = 1 := by
                have h := Hn.out
                simp [plM, hkz] at h
                omega
              obtain ⟨x0, hx0⟩ := List.length_eq_one_iff.1 (HFl.out.trans hn1)
              have HRp : Hid (Calls Tryz.prog 85 #[.slice (some ⟨g, 0, none⟩) n n, iv b] w5 fun e w' => ∃ g', e = .returned (.slice (some ⟨g', 0, none⟩) b b) ∧ Box w' g' 3 (List.replicate b (iv x0)).toArray ∧ w5.heap.size ≤ g' ∧ Only Nix w5 w') := Lib.hid (by
                have h := HFs.out
                rw [hx0, hn1] at h
                rw [hn1]
                exact repeat_one _ _ _ h b hb0 (by omega))
              have HX0 := Lib.hid hx0
              clear hx0 hn1
              go_wp2_with fail
              go_step3
              go_wp2_with fail
              refine (HRp.out).mono ?_
              rintro e w6 ⟨g6, rfl, hb6, hg6, o6⟩
              have HBp6 := Lib.hid (HBp5.out.only o6 (fun e => e))
              have HBq6 := Lib.hid (HBq5.out.only o6 (fun e => e))
              have HR6 := Lib.hid (HR5.out.nix o6)
              have HO6 := Lib.hid (HO5.out.trans o6.nix)
              have HBl6 : Hid (Box w6 g6 3 ((List.replicate b x0).map iv).toArray) := Lib.hid (by rw [List.map_replicate]; exact hb6)
              have HYl : Hid ((List.replicate b x0).length = b) := Lib.hid (by simp)
              have HYf : Hid (∀ x ∈ List.replicate b x0, -(2 ^ dp : Int) ≤ x ∧ x ≤ (2 ^ dp : Int)) := Lib.hid (fun x hx => by
                rw [List.eq_of_mem_replicate hx]
                exact HFf.out x0 (by rw [HX0.out]; simp))
              have hw5 : w1.heap.size < w5.heap.size := HBp5.out.lt
              have hg61 : w1.heap.size < g6 := by omega
              clear hb6 o6 HRp p0 p1 p2 p3 p4 p5 p6 p7 p8 p9
              have hTb : Box w6 g6 3 ((upTo (mul2 wd) (List.replicate b x0) 0).map iv).toArray := by rw [upTo_zero]; exact HBl6.out
              have HTb := Lib.hid hTb
              have htp : w1.heap.size ≠ g6 := by omega
              have htq : w.heap.size + 1 ≠ g6 := by omega
              have htr : g6 ≠ r := by omega
              have hts : w.heap.size ≤ g6 := by omega
              clear hTb
              go_wp2
              go_loopw [95] (fun s wr => TlP w6 g6 (mul2 wd) (List.replicate b x0) b s wr) (fun s _ => b - (intOf s).toNat)
              case atStart => exact ⟨0, Nat.zero_le _, rfl, HTb.out, Only.refl _ _⟩
              case round =>
                obtain ⟨j, hj, rfl, hb, hO⟩ := hrel
                have HBw := Lib.hid hb
                have HOw := Lib.hid hO
                have HPw := Lib.hid (HBp6.out.only hO (fun e => htp e))
                clear hb hO
                by_cases hlt : j < b
                · have hlt2 : (j : Int) < (b : Int) := by omega
                  have hjy : j < ((List.replicate b x0)).length := by rw [HYl.out]; exact hlt
                  have q2 := HPw.out.cell 2
                  simp only [List.getElem?_toArray, List.getElem?_cons_zero, List.getElem?_cons_succ] at q2
                  have hc0 := HBw.out.cell j
                  rw [List.getElem?_toArray, List.getElem?_map, List.getElem?_eq_getElem (by rw [upTo_len]; exact hjy), upTo_at _ _ _ hjy, Option.map_some] at hc0
                  have hft := HYf.out _ (List.getElem_mem hjy)
                  have hmf := mul2_fits hdwd hft.1 hft.2
                  have HSt : Hid (∀ kk, Box ((wr.drewN kk).setCell ⟨g6, j, none⟩ (iv (mul2 wd ((List.replicate b x0))[j]))) g6 3 ((upTo (mul2 wd) ((List.replicate b x0)) (j + 1)).map iv).toArray ∧ Only (Just g6) w6 ((wr.drewN kk).setCell ⟨g6, j, none⟩ (iv (mul2 wd ((List.replicate b x0))[j])))) := Lib.hid (fun kk => by
                    have h := (HBw.out.drewN kk).put j (iv (mul2 wd ((List.replicate b x0))[j]))
                    rw [set_ivs, upTo_set _ _ _ hjy] at h
                    exact ⟨h, (HOw.out.drewN kk).setCell (p := ⟨g6, j, none⟩) (.inl rfl) _⟩)
                  have hfz := HBw.out.frozen j
                  generalize ((List.replicate b x0))[j] = x at *
                  have hwy : IntKind.i64.wrap (x * 2 ^ wd) = mul2 wd x := K.w64k _ (by unfold mul2 at hmf; omega) (by unfold mul2 at hmf; omega)
                  generalize mul2 wd x = y at *
                  clear hmf hft hjy
                  go_wp2_with fail
                  have noOutT : ∀ j s, j < 9 → (([some 98, some 99, some 100, some 101, some 102, some 103, some 104, some 105, none] : List (Option Nat)).all fun d => d != some s) = true → ([some 98, some 99, some 100, some 101, some 102, some 103, some 104, some 105, none] : List (Option Nat)).getD j none ≠ some s := by
                    intro j s hj ha e
                    rw [List.getD_eq_getElem?_getD, List.getElem?_eq_getElem (by exact hj), Option.getD_some] at e
                    have := List.all_eq_true.1 ha _ (List.getElem_mem (by exact hj))
                    rw [e] at this
                    simp at this
                  refine region_val (by kernel_rfl) (fun k0 => ([some 98, some 99, some 100, some 101, some 102, some 103, some 104, some 105, none] : List (Option Nat)).getD k0 none) (fun k0 => ([(.slice (some ⟨g6, 0, none⟩) b b), (iv j), (.pointer (some ⟨g6, j, none⟩)), (iv x), (.pointer (some ⟨w1.heap.size, 2, none⟩)), (iv wd), (iv y), (.pointer (some ⟨g6, j, none⟩)), (undef)] : List Value).getD k0 undef) (CaW 8 wr (fun u => Box u g6 3 ((upTo (mul2 wd) ((List.replicate b x0)) (j + 1)).map iv).toArray ∧ Only (Just g6) w6 u)) 110 9 rfl (by kernel_rfl) (by kernel_rfl) rfl (by kernel_rfl) (by kernel_rfl) ⟨fun _ => ⟨1, rfl⟩, fun e => by cases e⟩ ?stepsT [(98, .slice (some ⟨g6, 0, none⟩) b b), (99, iv j), (100, .pointer (some ⟨g6, j, none⟩)), (101, iv x), (102, .pointer (some ⟨w1.heap.size, 2, none⟩)), (103, iv wd), (104, iv y), (105, .pointer (some ⟨g6, j, none⟩))] rfl ?doneT
                  case stepsT =>
                    refine ⟨?_, ?_, ?_, ?_, ?_, ?_, ?_, ?_, ?_, trivial⟩
                    · intro L A' u hW hL0 hnd K' hK
                      have r11 : A'.tmps[11]? = some (.slice (some ⟨g6, 0, none⟩) b b) := (hW.out 11 (fun j hj => noOutT j 11 hj (by kernel_rfl))).trans rfl
                      go_simp
                      exact hK _ (hW.wi.same (by decide))
                    · intro L A' u hW hL0 hnd K' hK
                      have r13 : A'.tmps[13]? = some (iv j) := (hW.out 13 (fun j hj => noOutT j 13 hj (by kernel_rfl))).trans rfl
                      go_simp
                      exact hK _ (hW.wi.same (by decide))
                    · intro L A' u hW hL0 hnd K' hK
                      have r98 : A'.tmps[98]? = some (.slice (some ⟨g6, 0, none⟩) b b) := hW.val 0 98 (by decide) (hnd 0 (by kernel_rfl)) rfl
                      have r99 : A'.tmps[99]? = some (iv j) := hW.val 1 99 (by decide) (hnd 1 (by kernel_rfl)) rfl
                      go_simp
                      exact hK _ (hW.wi.same (by decide))
                    · intro L A' u hW hL0 hnd K' hK
                      have r100 : A'.tmps[100]? = some (.pointer (some ⟨g6, j, none⟩)) := hW.val 2 100 (by decide) (hnd 2 (by kernel_rfl)) rfl
                      have n6 : L 6 = false := notYet hW.closed (j := 6) (by rfl) (k := 3) (by kernel_rfl) hL0
                      have n8 : L 8 = false := notYet hW.closed (j := 8) (by rfl) (k := 6) (by kernel_rfl) n6
                      obtain ⟨kk, rfl⟩ := hW.wi.no n8
                      go_simp
                      exact hK _ (hW.wi.same (by decide))
                    · intro L A' u hW hL0 hnd K' hK
                      have r9 : A'.tmps[9]? = some (.pointer (some ⟨w1.heap.size, 0, none⟩)) := (hW.out 9 (fun j hj => noOutT j 9 hj (by kernel_rfl))).trans rfl
                      go_simp
                      exact hK _ (hW.wi.same (by decide))
                    · intro L A' u hW hL0 hnd K' hK
                      have r102 : A'.tmps[102]? = some (.pointer (some ⟨w1.heap.size, 2, none⟩)) := hW.val 4 102 (by decide) (hnd 4 (by kernel_rfl)) rfl
                      have n6 : L 6 = false := notYet hW.closed (j := 6) (by rfl) (k := 5) (by kernel_rfl) hL0
                      have n8 : L 8 = false := notYet hW.closed (j := 8) (by rfl) (k := 6) (by kernel_rfl) n6
                      obtain ⟨kk, rfl⟩ := hW.wi.no n8
                      go_simp
                      exact hK _ (hW.wi.same (by decide))
                    · intro L A' u hW hL0 hnd K' hK
                      have r101 : A'.tmps[101]? = some (iv x) := hW.val 3 101 (by decide) (hnd 3 (by kernel_rfl)) rfl
                      have r103 : A'.tmps[103]? = some (iv wd) := hW.val 5 103 (by decide) (hnd 5 (by kernel_rfl)) rfl
                      go_simp
                      first | rw [hwy] | skip
                      exact hK _ (hW.wi.same (by decide))
                    · intro L A' u hW hL0 hnd K' hK
                      have r98 : A'.tmps[98]? = some (.slice (some ⟨g6, 0, none⟩) b b) := hW.val 0 98 (by decide) (hnd 0 (by kernel_rfl)) rfl
                      have r99 : A'.tmps[99]? = some (iv j) := hW.val 1 99 (by decide) (hnd 1 (by kernel_rfl)) rfl
                      go_simp
                      exact hK _ (hW.wi.same (by decide))
                    · intro L A' u hW hL0 hnd K' hK
                      have r105 : A'.tmps[105]? = some (.pointer (some ⟨g6, j, none⟩)) := hW.val 7 105 (by decide) (hnd 7 (by kernel_rfl)) rfl
                      have r104 : A'.tmps[104]? = some (iv y) := hW.val 6 104 (by decide) (hnd 6 (by kernel_rfl)) rfl
                      obtain ⟨kk, rfl⟩ := hW.wi.no hL0
                      go_simp
                      exact hK _ (CaW.made (HSt.out kk))
                  case doneT =>
                    intro L u hWI hall
                    obtain ⟨hB4, ho4⟩ := hWI.yes (hall 8 (by decide))
                    clear hWI hall noOutT
                    have HB4 := Lib.hid hB4
                    have HO4' := Lib.hid ho4
                    clear hB4 ho4 HSt
                    simp only [putV, List.foldl_cons, List.foldl_nil, List.setIfInBounds_toArray, List.set_cons_zero, List.set_cons_succ]
                    go_wp2
                    go_roundw
                    case rel => exact ⟨j + 1, by omega, by go_num, HB4.out, HO4'.out⟩
                    case measure => simp [intOf]; omega
                · have hjN : b = j := by omega
                  subst hjN
                  have HQw := Lib.hid (HBq6.out.only HOw.out (fun e => htq e))
                  have HRw := Lib.hid (rd_just HR6.out HBl6.out (by decide) htr HOw.out)
                  have HOx := Lib.hid (only_just HO6.out HOw.out hts)
                  have HBx : Hid (Box wr g6 3 ((((List.replicate b x0)).map (mul2 wd)).map iv).toArray) := Lib.hid (by
                    have h := HBw.out
                    rwa [upTo_all _ _ _ (by rw [HYl.out]; exact Nat.le_refl _)] at h)
                  have htqn : w.heap.size + 1 < wr.heap.size := HQw.out.lt
                  clear HBw
                  have p0 := HPw.out.cell 0
                  have p1 := HPw.out.cell 1
                  have p2 := HPw.out.cell 2
                  have p3 := HPw.out.cell 3
                  have p4 := HPw.out.cell 4
                  have p5 := HPw.out.cell 5
                  have p6 := HPw.out.cell 6
                  have p7 := HPw.out.cell 7
                  have p8 := HPw.out.cell 8
                  have p9 := HPw.out.cell 9
                  simp only [List.getElem?_toArray, List.getElem?_cons_zero, List.getElem?_cons_succ] at p0 p1 p2 p3 p4 p5 p6 p7 p8 p9
                  go_wp2_with fail
                  have noOutF : ∀ j s, j < 6 → (([some 107, some 108, some 109, some 6, none, some 8] : List (Option Nat)).all fun d => d != some s) = true → ([some 107, some 108, some 109, some 6, none, some 8] : List (Option Nat)).getD j none ≠ some s := by
                    intro j s hj ha e
                    rw [List.getD_eq_getElem?_getD, List.getElem?_eq_getElem (by exact hj), Option.getD_some] at e
                    have := List.all_eq_true.1 ha _ (List.getElem_mem (by exact hj))
                    rw [e] at this
                    simp at this
                  refine region_val (by kernel_rfl) (fun k0 => ([some 107, some 108, some 109, some 6, none, some 8] : List (Option Nat)).getD k0 none) (fun k0 => ([(.slice (some ⟨g6, 0, none⟩) b b), (.agg (spC 0 o wd 0 0 (.slice none 0 0) 0 0 (.slice none 0 0) (.slice none 0 0))), (iv 0), (.slice (some ⟨g6, 0, none⟩) b b), (undef), (iv 0)] : List Value).getD k0 undef) (CaW 4 wr (fun u => Box u (w.heap.size + 1) 28 (spC 0 o wd 0 0 (.slice none 0 0) 0 0 (.slice none 0 0) (.slice none 0 0)) ∧ Only (Just (w.heap.size + 1)) wr u)) 110 6 rfl (by kernel_rfl) (by kernel_rfl) rfl (by kernel_rfl) (by kernel_rfl) ⟨fun _ => ⟨1, rfl⟩, fun e => by cases e⟩ ?stepsF [(107, .slice (some ⟨g6, 0, none⟩) b b), (108, .agg (spC 0 o wd 0 0 (.slice none 0 0) 0 0 (.slice none 0 0) (.slice none 0 0))), (109, iv 0), (6, .slice (some ⟨g6, 0, none⟩) b b), (8, iv 0)] rfl ?doneF
                  case stepsF =>
                    refine ⟨?_, ?_, ?_, ?_, ?_, ?_, trivial⟩
                    · intro L A' u hW hL0 hnd K' hK
                      have r11 : A'.tmps[11]? = some (.slice (some ⟨g6, 0, none⟩) b b) := (hW.out 11 (fun j hj => noOutF j 11 hj (by kernel_rfl))).trans rfl
                      go_simp
                      exact hK _ (hW.wi.same (by decide))
                    · intro L A' u hW hL0 hnd K' hK
                      have r9 : A'.tmps[9]? = some (.pointer (some ⟨w1.heap.size, 0, none⟩)) := (hW.out 9 (fun j hj => noOutF j 9 hj (by kernel_rfl))).trans rfl
                      have n4 : L 4 = false := notYet hW.closed (j := 4) (by rfl) (k := 1) (by kernel_rfl) hL0
                      obtain ⟨kk, rfl⟩ := hW.wi.no n4
                      go_simp
                      exact hK _ (hW.wi.same (by decide))
                    · intro L A' u hW hL0 hnd K' hK
                      have r10 : A'.tmps[10]? = some (iv 0) := (hW.out 10 (fun j hj => noOutF j 10 hj (by kernel_rfl))).trans rfl
                      go_simp
                      exact hK _ (hW.wi.same (by decide))
                    · intro L A' u hW hL0 hnd K' hK
                      have r107 : A'.tmps[107]? = some (.slice (some ⟨g6, 0, none⟩) b b) := hW.val 0 107 (by decide) (hnd 0 (by kernel_rfl)) rfl
                      go_simp
                      exact hK _ (hW.wi.same (by decide))
                    · intro L A' u hW hL0 hnd K' hK
                      have r7 : A'.tmps[7]? = some (.pointer (some ⟨w.heap.size + 1, 0, none⟩)) := (hW.out 7 (fun j hj => noOutF j 7 hj (by kernel_rfl))).trans rfl
                      have r108 : A'.tmps[108]? = some (.agg (spC 0 o wd 0 0 (.slice none 0 0) 0 0 (.slice none 0 0) (.slice none 0 0))) := hW.val 1 108 (by decide) (hnd 1 (by kernel_rfl)) rfl
                      obtain ⟨kk, rfl⟩ := hW.wi.no hL0
                      refine step_store_row rfl 28 (.tmp 7) (.tmp 108) rfl rfl (w.heap.size + 1) 28 zC (spC 0 o wd 0 0 (.slice none 0 0) 0 0 (.slice none 0 0) (.slice none 0 0)) (by simp [Act.eval, r7]) (by simp [Act.eval, r108]) (HQw.out.drewN kk) Tryz.size_plan rfl (spC_one _ _ _ _ _ _ _ _ _ _ _ _ _ _ _ _) ?_
                      intro u' hb' ho'
                      exact hK _ (CaW.made ⟨hb', ⟨ho'.os, ho'.tape, ho'.output, ho'.size, ho'.block⟩⟩)
                    · intro L A' u hW hL0 hnd K' hK
                      have r109 : A'.tmps[109]? = some (iv 0) := hW.val 2 109 (by decide) (hnd 2 (by kernel_rfl)) rfl
                      go_simp
                      exact hK _ (hW.wi.same (by decide))
                  case doneF =>
                    intro L u hWI hall
                    obtain ⟨hB4, ho4⟩ := hWI.yes (hall 4 (by decide))
                    clear hWI hall noOutF
                    have Z1 := Lib.hid (rd_just HRw.out HQw.out (by decide) hnq ho4)
                    have Z2 := Lib.hid (only_just HOx.out ho4 (by omega))
                    have ZF := Lib.hid ho4
                    have ZL := Lib.hid (HBx.out.only ho4 (fun e => htq e.symm))
                    have y0 := hB4.cell 0
                    have y1 := hB4.cell 1
                    have y2 := hB4.cell 2
                    have y3 := hB4.cell 3
                    have y4 := hB4.cell 4
                    have y5 := hB4.cell 5
                    have y6 := hB4.cell 6
                    have y7 := hB4.cell 7
                    have y8 := hB4.cell 8
                    have y9 := hB4.cell 9
                    simp only [List.getElem?_toArray, List.getElem?_cons_zero, List.getElem?_cons_succ] at y0 y1 y2 y3 y4 y5 y6 y7 y8 y9
                    clear hB4 ho4
                    simp only [putV, List.foldl_cons, List.foldl_nil, List.setIfInBounds_toArray, List.set_cons_zero, List.set_cons_succ]
                    go_wp2
                    refine bodyPost_ret (v := .tuple #[.slice (some ⟨g6, 0, none⟩) b b, spV 0 o wd 0 0 (.slice none 0 0) 0 0 (.slice none 0 0) (.slice none 0 0), iv 0]) ?_ rfl ?_
                    · simp [results, Tryz.f44, go_sem, y0, y1, y2, y3, y4, y5, y6, y7, y8, y9]
                    exact .inr ⟨k, o, wd, 0, 0, [], 0, 0, [], [], _, a4, some ⟨g6, 0, none⟩, none, none, none, b, b, 0, 0, 0, 0, 0, 0, by rw [hkz], HChk.out _ _ _ _ _ _ _ _ _ (.inl ⟨hk, rfl, rfl, rfl, rfl, rfl, rfl, rfl, by rw [HX0.out]; rfl, rfl⟩), ISb.of_box ZL.out (by rw [List.length_map, HYl.out]) (by rw [List.length_map, HYl.out]; omega) (mul2_all hdwd HYf.out), ISb.nil _, ISb.nil _, ISb.nil _, Z1.out, Z2.out⟩
            · have hkz : (k : Int) = 1 := by omega
              rw [hkz] at HBp5
              have p0 := HBp5.out.cell 0
              have p1 := HBp5.out.cell 1
              have p2 := HBp5.out.cell 2
              have p3 := HBp5.out.cell 3
              have p4 := HBp5.out.cell 4
              have p5 := HBp5.out.cell 5
              have p6 := HBp5.out.cell 6
              have p7 := HBp5.out.cell 7
              have p8 := HBp5.out.cell 8
              have p9 := HBp5.out.cell 9
              simp only [List.getElem?_toArray, List.getElem?_cons_zero, List.getElem?_cons_succ] at p0 p1 p2 p3 p4 p5 p6 p7 p8 p9
              have Hnb : Hid (n = b) := Lib.hid (by
                have h := Hn.out
                simp [plM, hkz] at h
                omega)
              go_wp2_with fail
              go_step3
              have hTb : Box w5 g 3 ((upTo (mul2 wd) fs 0).map iv).toArray := by rw [upTo_zero]; exact HBl5.out
              have HTb := Lib.hid hTb
              have htp : w1.heap.size ≠ g := by omega
              have htq : w.heap.size + 1 ≠ g := by omega
              have htr : g ≠ r := by omega
              have hts : w.heap.size ≤ g := by omega
              clear hTb
              go_wp2
              go_loopw [95] (fun s wr => TlP w5 g (mul2 wd) fs n s wr) (fun s _ => n - (intOf s).toNat)
              case atStart => exact ⟨0, Nat.zero_le _, rfl, HTb.out, Only.refl _ _⟩
              case round =>
                obtain ⟨j, hj, rfl, hb, hO⟩ := hrel
                have HBw := Lib.hid hb
                have HOw := Lib.hid hO
                have HPw := Lib.hid (HBp5.out.only hO (fun e => htp e))
                clear hb hO
                by_cases hlt : j < n
                · have hlt2 : (j : Int) < (n : Int) := by omega
                  have hjy : j < (fs).length := by rw [HFl.out]; exact hlt
                  have q2 := HPw.out.cell 2
                  simp only [List.getElem?_toArray, List.getElem?_cons_zero, List.getElem?_cons_succ] at q2
                  have hc0 := HBw.out.cell j
                  rw [List.getElem?_toArray, List.getElem?_map, List.getElem?_eq_getElem (by rw [upTo_len]; exact hjy), upTo_at _ _ _ hjy, Option.map_some] at hc0
                  have hft := HFf.out _ (List.getElem_mem hjy)
                  have hmf := mul2_fits hdwd hft.1 hft.2
                  have HSt : Hid (∀ kk, Box ((wr.drewN kk).setCell ⟨g, j, none⟩ (iv (mul2 wd (fs)[j]))) g 3 ((upTo (mul2 wd) (fs) (j + 1)).map iv).toArray ∧ Only (Just g) w5 ((wr.drewN kk).setCell ⟨g, j, none⟩ (iv (mul2 wd (fs)[j])))) := Lib.hid (fun kk => by
                    have h := (HBw.out.drewN kk).put j (iv (mul2 wd (fs)[j]))
                    rw [set_ivs, upTo_set _ _ _ hjy] at h
                    exact ⟨h, (HOw.out.drewN kk).setCell (p := ⟨g, j, none⟩) (.inl rfl) _⟩)
                  have hfz := HBw.out.frozen j
                  generalize (fs)[j] = x at *
                  have hwy : IntKind.i64.wrap (x * 2 ^ wd) = mul2 wd x := K.w64k _ (by unfold mul2 at hmf; omega) (by unfold mul2 at hmf; omega)
                  generalize mul2 wd x = y at *
                  clear hmf hft hjy
                  go_wp2_with fail
                  have noOutT : ∀ j s, j < 9 → (([some 98, some 99, some 100, some 101, some 102, some 103, some 104, some 105, none] : List (Option Nat)).all fun d => d != some s) = true → ([some 98, some 99, some 100, some 101, some 102, some 103, some 104, some 105, none] : List (Option Nat)).getD j none ≠ some s := by
                    intro j s hj ha e
                    rw [List.getD_eq_getElem?_getD, List.getElem?_eq_getElem (by exact hj), Option.getD_some] at e
                    have := List.all_eq_true.1 ha _ (List.getElem_mem (by exact hj))
                    rw [e] at this
                    simp at this
                  refine region_val (by kernel_rfl) (fun k0 => ([some 98, some 99, some 100, some 101, some 102, some 103, some 104, some 105, none] : List (Option Nat)).getD k0 none) (fun k0 => ([(.slice (some ⟨g, 0, none⟩) n n), (iv j), (.pointer (some ⟨g, j, none⟩)), (iv x), (.pointer (some ⟨w1.heap.size, 2, none⟩)), (iv wd), (iv y), (.pointer (some ⟨g, j, none⟩)), (undef)] : List Value).getD k0 undef) (CaW 8 wr (fun u => Box u g 3 ((upTo (mul2 wd) (fs) (j + 1)).map iv).toArray ∧ Only (Just g) w5 u)) 110 9 rfl (by kernel_rfl) (by kernel_rfl) rfl (by kernel_rfl) (by kernel_rfl) ⟨fun _ => ⟨1, rfl⟩, fun e => by cases e⟩ ?stepsT [(98, .slice (some ⟨g, 0, none⟩) n n), (99, iv j), (100, .pointer (some ⟨g, j, none⟩)), (101, iv x), (102, .pointer (some ⟨w1.heap.size, 2, none⟩)), (103, iv wd), (104, iv y), (105, .pointer (some ⟨g, j, none⟩))] rfl ?doneT
                  case stepsT =>
                    refine ⟨?_, ?_, ?_, ?_, ?_, ?_, ?_, ?_, ?_, trivial⟩
                    · intro L A' u hW hL0 hnd K' hK
                      have r11 : A'.tmps[11]? = some (.slice (some ⟨g, 0, none⟩) n n) := (hW.out 11 (fun j hj => noOutT j 11 hj (by kernel_rfl))).trans rfl
                      go_simp
                      exact hK _ (hW.wi.same (by decide))
                    · intro L A' u hW hL0 hnd K' hK
                      have r13 : A'.tmps[13]? = some (iv j) := (hW.out 13 (fun j hj => noOutT j 13 hj (by kernel_rfl))).trans rfl
                      go_simp
                      exact hK _ (hW.wi.same (by decide))
                    · intro L A' u hW hL0 hnd K' hK
                      have r98 : A'.tmps[98]? = some (.slice (some ⟨g, 0, none⟩) n n) := hW.val 0 98 (by decide) (hnd 0 (by kernel_rfl)) rfl
                      have r99 : A'.tmps[99]? = some (iv j) := hW.val 1 99 (by decide) (hnd 1 (by kernel_rfl)) rfl
                      go_simp
                      exact hK _ (hW.wi.same (by decide))
                    · intro L A' u hW hL0 hnd K' hK
                      have r100 : A'.tmps[100]? = some (.pointer (some ⟨g, j, none⟩)) := hW.val 2 100 (by decide) (hnd 2 (by kernel_rfl)) rfl
                      have n6 : L 6 = false := notYet hW.closed (j := 6) (by rfl) (k := 3) (by kernel_rfl) hL0
                      have n8 : L 8 = false := notYet hW.closed (j := 8) (by rfl) (k := 6) (by kernel_rfl) n6
                      obtain ⟨kk, rfl⟩ := hW.wi.no n8
                      go_simp
                      exact hK _ (hW.wi.same (by decide))
                    · intro L A' u hW hL0 hnd K' hK
                      have r9 : A'.tmps[9]? = some (.pointer (some ⟨w1.heap.size, 0, none⟩)) := (hW.out 9 (fun j hj => noOutT j 9 hj (by kernel_rfl))).trans rfl
                      go_simp
                      exact hK _ (hW.wi.same (by decide))
                    · intro L A' u hW hL0 hnd K' hK
                      have r102 : A'.tmps[102]? = some (.pointer (some ⟨w1.heap.size, 2, none⟩)) := hW.val 4 102 (by decide) (hnd 4 (by kernel_rfl)) rfl
                      have n6 : L 6 = false := notYet hW.closed (j := 6) (by rfl) (k := 5) (by kernel_rfl) hL0
                      have n8 : L 8 = false := notYet hW.closed (j := 8) (by rfl) (k := 6) (by kernel_rfl) n6
                      obtain ⟨kk, rfl⟩ := hW.wi.no n8
                      go_simp
                      exact hK _ (hW.wi.same (by decide))
                    · intro L A' u hW hL0 hnd K' hK
                      have r101 : A'.tmps[101]? = some (iv x) := hW.val 3 101 (by decide) (hnd 3 (by kernel_rfl)) rfl
                      have r103 : A'.tmps[103]? = some (iv wd) := hW.val 5 103 (by decide) (hnd 5 (by kernel_rfl)) rfl
                      go_simp
                      first | rw [hwy] | skip
                      exact hK _ (hW.wi.same (by decide))
                    · intro L A' u hW hL0 hnd K' hK
                      have r98 : A'.tmps[98]? = some (.slice (some ⟨g, 0, none⟩) n n) := hW.val 0 98 (by decide) (hnd 0 (by kernel_rfl)) rfl
                      have r99 : A'.tmps[99]? = some (iv j) := hW.val 1 99 (by decide) (hnd 1 (by kernel_rfl)) rfl
                      go_simp
                      exact hK _ (hW.wi.same (by decide))
                    · intro L A' u hW hL0 hnd K' hK
                      have r105 : A'.tmps[105]? = some (.pointer (some ⟨g, j, none⟩)) := hW.val 7 105 (by decide) (hnd 7 (by kernel_rfl)) rfl
                      have r104 : A'.tmps[104]? = some (iv y) := hW.val 6 104 (by decide) (hnd 6 (by kernel_rfl)) rfl
                      obtain ⟨kk, rfl⟩ := hW.wi.no hL0
                      go_simp
                      exact hK _ (CaW.made (HSt.out kk))
                  case doneT =>
                    intro L u hWI hall
                    obtain ⟨hB4, ho4⟩ := hWI.yes (hall 8 (by decide))
                    clear hWI hall noOutT
                    have HB4 := Lib.hid hB4
                    have HO4' := Lib.hid ho4
                    clear hB4 ho4 HSt
                    simp only [putV, List.foldl_cons, List.foldl_nil, List.setIfInBounds_toArray, List.set_cons_zero, List.set_cons_succ]
                    go_wp2
                    go_roundw
                    case rel => exact ⟨j + 1, by omega, by go_num, HB4.out, HO4'.out⟩
                    case measure => simp [intOf]; omega
                · have hjN : n = j := by omega
                  subst hjN
                  have HQw := Lib.hid (HBq5.out.only HOw.out (fun e => htq e))
                  have HRw := Lib.hid (rd_just HR5.out HBl5.out (by decide) htr HOw.out)
                  have HOx := Lib.hid (only_just HO5.out HOw.out hts)
                  have HBx : Hid (Box wr g 3 (((fs).map (mul2 wd)).map iv).toArray) := Lib.hid (by
                    have h := HBw.out
                    rwa [upTo_all _ _ _ (by rw [HFl.out]; exact Nat.le_refl _)] at h)
                  have htqn : w.heap.size + 1 < wr.heap.size := HQw.out.lt
                  clear HBw
                  have p0 := HPw.out.cell 0
                  have p1 := HPw.out.cell 1
                  have p2 := HPw.out.cell 2
                  have p3 := HPw.out.cell 3
                  have p4 := HPw.out.cell 4
                  have p5 := HPw.out.cell 5
                  have p6 := HPw.out.cell 6
                  have p7 := HPw.out.cell 7
                  have p8 := HPw.out.cell 8
                  have p9 := HPw.out.cell 9
                  simp only [List.getElem?_toArray, List.getElem?_cons_zero, List.getElem?_cons_succ] at p0 p1 p2 p3 p4 p5 p6 p7 p8 p9
                  go_wp2_with fail
                  have noOutF : ∀ j s, j < 6 → (([some 107, some 108, some 109, some 6, none, some 8] : List (Option Nat)).all fun d => d != some s) = true → ([some 107, some 108, some 109, some 6, none, some 8] : List (Option Nat)).getD j none ≠ some s := by
                    intro j s hj ha e
                    rw [List.getD_eq_getElem?_getD, List.getElem?_eq_getElem (by exact hj), Option.getD_some] at e
                    have := List.all_eq_true.1 ha _ (List.getElem_mem (by exact hj))
                    rw [e] at this
                    simp at this
                  refine region_val (by kernel_rfl) (fun k0 => ([some 107, some 108, some 109, some 6, none, some 8] : List (Option Nat)).getD k0 none) (fun k0 => ([(.slice (some ⟨g, 0, none⟩) n n), (.agg (spC 1 o wd 0 0 (.slice none 0 0) 0 0 (.slice none 0 0) (.slice none 0 0))), (iv 0), (.slice (some ⟨g, 0, none⟩) n n), (undef), (iv 0)] : List Value).getD k0 undef) (CaW 4 wr (fun u => Box u (w.heap.size + 1) 28 (spC 1 o wd 0 0 (.slice none 0 0) 0 0 (.slice none 0 0) (.slice none 0 0)) ∧ Only (Just (w.heap.size + 1)) wr u)) 110 6 rfl (by kernel_rfl) (by kernel_rfl) rfl (by kernel_rfl) (by kernel_rfl) ⟨fun _ => ⟨1, rfl⟩, fun e => by cases e⟩ ?stepsF [(107, .slice (some ⟨g, 0, none⟩) n n), (108, .agg (spC 1 o wd 0 0 (.slice none 0 0) 0 0 (.slice none 0 0) (.slice none 0 0))), (109, iv 0), (6, .slice (some ⟨g, 0, none⟩) n n), (8, iv 0)] rfl ?doneF
                  case stepsF =>
                    refine ⟨?_, ?_, ?_, ?_, ?_, ?_, trivial⟩
                    · intro L A' u hW hL0 hnd K' hK
                      have r11 : A'.tmps[11]? = some (.slice (some ⟨g, 0, none⟩) n n) := (hW.out 11 (fun j hj => noOutF j 11 hj (by kernel_rfl))).trans rfl
                      go_simp
                      exact hK _ (hW.wi.same (by decide))
                    · intro L A' u hW hL0 hnd K' hK
                      have r9 : A'.tmps[9]? = some (.pointer (some ⟨w1.heap.size, 0, none⟩)) := (hW.out 9 (fun j hj => noOutF j 9 hj (by kernel_rfl))).trans rfl
                      have n4 : L 4 = false := notYet hW.closed (j := 4) (by rfl) (k := 1) (by kernel_rfl) hL0
                      obtain ⟨kk, rfl⟩ := hW.wi.no n4
                      go_simp
                      exact hK _ (hW.wi.same (by decide))
                    · intro L A' u hW hL0 hnd K' hK
                      have r10 : A'.tmps[10]? = some (iv 0) := (hW.out 10 (fun j hj => noOutF j 10 hj (by kernel_rfl))).trans rfl
                      go_simp
                      exact hK _ (hW.wi.same (by decide))
                    · intro L A' u hW hL0 hnd K' hK
                      have r107 : A'.tmps[107]? = some (.slice (some ⟨g, 0, none⟩) n n) := hW.val 0 107 (by decide) (hnd 0 (by kernel_rfl)) rfl
                      go_simp
                      exact hK _ (hW.wi.same (by decide))
                    · intro L A' u hW hL0 hnd K' hK
                      have r7 : A'.tmps[7]? = some (.pointer (some ⟨w.heap.size + 1, 0, none⟩)) := (hW.out 7 (fun j hj => noOutF j 7 hj (by kernel_rfl))).trans rfl
                      have r108 : A'.tmps[108]? = some (.agg (spC 1 o wd 0 0 (.slice none 0 0) 0 0 (.slice none 0 0) (.slice none 0 0))) := hW.val 1 108 (by decide) (hnd 1 (by kernel_rfl)) rfl
                      obtain ⟨kk, rfl⟩ := hW.wi.no hL0
                      refine step_store_row rfl 28 (.tmp 7) (.tmp 108) rfl rfl (w.heap.size + 1) 28 zC (spC 1 o wd 0 0 (.slice none 0 0) 0 0 (.slice none 0 0) (.slice none 0 0)) (by simp [Act.eval, r7]) (by simp [Act.eval, r108]) (HQw.out.drewN kk) Tryz.size_plan rfl (spC_one _ _ _ _ _ _ _ _ _ _ _ _ _ _ _ _) ?_
                      intro u' hb' ho'
                      exact hK _ (CaW.made ⟨hb', ⟨ho'.os, ho'.tape, ho'.output, ho'.size, ho'.block⟩⟩)
                    · intro L A' u hW hL0 hnd K' hK
                      have r109 : A'.tmps[109]? = some (iv 0) := hW.val 2 109 (by decide) (hnd 2 (by kernel_rfl)) rfl
                      go_simp
                      exact hK _ (hW.wi.same (by decide))
                  case doneF =>
                    intro L u hWI hall
                    obtain ⟨hB4, ho4⟩ := hWI.yes (hall 4 (by decide))
                    clear hWI hall noOutF
                    have Z1 := Lib.hid (rd_just HRw.out HQw.out (by decide) hnq ho4)
                    have Z2 := Lib.hid (only_just HOx.out ho4 (by omega))
                    have ZF := Lib.hid ho4
                    have ZL := Lib.hid (HBx.out.only ho4 (fun e => htq e.symm))
                    have y0 := hB4.cell 0
                    have y1 := hB4.cell 1
                    have y2 := hB4.cell 2
                    have y3 := hB4.cell 3
                    have y4 := hB4.cell 4
                    have y5 := hB4.cell 5
                    have y6 := hB4.cell 6
                    have y7 := hB4.cell 7
                    have y8 := hB4.cell 8
                    have y9 := hB4.cell 9
                    simp only [List.getElem?_toArray, List.getElem?_cons_zero, List.getElem?_cons_succ] at y0 y1 y2 y3 y4 y5 y6 y7 y8 y9
                    clear hB4 ho4
                    simp only [putV, List.foldl_cons, List.foldl_nil, List.setIfInBounds_toArray, List.set_cons_zero, List.set_cons_succ]
                    go_wp2
                    refine bodyPost_ret (v := .tuple #[.slice (some ⟨g, 0, none⟩) n n, spV 1 o wd 0 0 (.slice none 0 0) 0 0 (.slice none 0 0) (.slice none 0 0), iv 0]) ?_ rfl ?_
                    · simp [results, Tryz.f44, go_sem, y0, y1, y2, y3, y4, y5, y6, y7, y8, y9]
                    exact .inr ⟨k, o, wd, 0, 0, [], 0, 0, [], [], _, a4, some ⟨g, 0, none⟩, none, none, none, n, n, 0, 0, 0, 0, 0, 0, by rw [hkz], HChk.out _ _ _ _ _ _ _ _ _ (.inr (.inl ⟨hk, rfl, rfl, rfl, rfl, rfl, rfl, rfl, rfl, rfl⟩)), ISb.of_box ZL.out (by rw [List.length_map, HFl.out]) (by rw [List.length_map, HFl.out]; omega) (mul2_all hdwd HFf.out), ISb.nil _, ISb.nil _, ISb.nil _, Z1.out, Z2.out⟩
            · have hkz : (k : Int) = 2 := by omega
              rw [hkz] at HBp5
              have p0 := HBp5.out.cell 0
              have p1 := HBp5.out.cell 1
              have p2 := HBp5.out.cell 2
              have p3 := HBp5.out.cell 3
              have p4 := HBp5.out.cell 4
              have p5 := HBp5.out.cell 5
              have p6 := HBp5.out.cell 6
              have p7 := HBp5.out.cell 7
              have p8 := HBp5.out.cell 8
              have p9 := HBp5.out.cell 9
              simp only [List.getElem?_toArray, List.getElem?_cons_zero, List.getElem?_cons_succ] at p0 p1 p2 p3 p4 p5 p6 p7 p8 p9
              have hgr : g ≠ r := by omega
              have hgp : g ≠ w1.heap.size := by omega
              have ho4 : o ≤ 4 := HKs.out.2.2.1 hk
              have HRr := Lib.hid (rread_any HR5.out b o (by unfold ckB; rw [if_neg (by omega)]))
              have hr0 := HBr5.out.cell 0
              simp only [List.getElem?_toArray, List.getElem?_cons_zero] at hr0
              have p0 := HBp5.out.cell 0
              have p1 := HBp5.out.cell 1
              have p2 := HBp5.out.cell 2
              have p3 := HBp5.out.cell 3
              have p4 := HBp5.out.cell 4
              have p5 := HBp5.out.cell 5
              have p6 := HBp5.out.cell 6
              have p7 := HBp5.out.cell 7
              have p8 := HBp5.out.cell 8
              have p9 := HBp5.out.cell 9
              simp only [List.getElem?_toArray, List.getElem?_cons_zero, List.getElem?_cons_succ] at p0 p1 p2 p3 p4 p5 p6 p7 p8 p9
              go_wp2_with fail
              go_step3
              go_wp2_with fail
              refine (HRr.out).mono ?_
              rintro e w6 (⟨E, rfl, hE, hR6, o6, hno⟩ | ⟨m, ro, gp, gb, gd, Q, rs, a5, rfl, hp, sp, sb, sd, ⟨csp, kp⟩, ⟨csb, kb⟩, ⟨csd, kd⟩, hR6, o6⟩)
              · have HBp6 := Lib.hid (HBp5.out.only o6 (fun e => hnp e))
                have HBq6 := Lib.hid (HBq5.out.only o6 (fun e => hnq e))
                have HBl6 := Lib.hid (HBl5.out.only o6 (fun e => hgr e))
                have HR6 := Lib.hid hR6
                have HO6 := Lib.hid (HO5.out.trans o6)
                have HNo := Lib.hid hno
                have HE := Lib.hid hE
                have hE0 : (E != 0) = true := by rcases hE with rfl | rfl | rfl | rfl <;> rfl
                clear hR6 o6 hno hE hr0 HRr p0 p1 p2 p3 p4 p5 p6 p7 p8 p9
                go_wp2_with (refine wpList_store_part rfl 26 (.tmp 79) (.tmp 77) rfl rfl w1.heap.size 6 28 (spC 2 o wd 0 0 (.slice none 0 0) 0 0 (.slice none 0 0) (.slice none 0 0)) #[iv 0, iv 0, .slice none 0 0, .slice none 0 0] (spC 2 o wd 0 0 (.slice none 0 0) 0 0 (.slice none 0 0) (.slice none 0 0)) rfl rfl HBp6.out Tryz.size_rplan (by simp) (by simp [Value.oneCell']) rfl ?st)
                case st =>
                  intro w7 hb7 o7
                  have HBp7 := Lib.hid hb7
                  have HBq7 := Lib.hid (HBq6.out.only o7 (fun e => hpq e))
                  have HBl7 := Lib.hid (HBl6.out.only o7 (fun e => hgp e))
                  have HR7 := Lib.hid (rd_just HR6.out HBp6.out (by decide) hnp o7)
                  have HO7 := Lib.hid (only_just HO6.out o7 (by omega))
                  clear hb7 o7
                  have hTb : Box w7 g 3 ((upTo (mul2 wd) fs 0).map iv).toArray := by rw [upTo_zero]; exact HBl7.out
                  have HTb := Lib.hid hTb
                  have htp : w1.heap.size ≠ g := by omega
                  have htq : w.heap.size + 1 ≠ g := by omega
                  have htr : g ≠ r := by omega
                  have hts : w.heap.size ≤ g := by omega
                  clear hTb
                  go_wp2
                  go_loopw [95] (fun s wr => TlP w7 g (mul2 wd) fs n s wr) (fun s _ => n - (intOf s).toNat)
                  case atStart => exact ⟨0, Nat.zero_le _, rfl, HTb.out, Only.refl _ _⟩
                  case round =>
                    obtain ⟨j, hj, rfl, hb, hO⟩ := hrel
                    have HBw := Lib.hid hb
                    have HOw := Lib.hid hO
                    have HPw := Lib.hid (HBp7.out.only hO (fun e => htp e))
                    clear hb hO
                    by_cases hlt : j < n
                    · have hlt2 : (j : Int) < (n : Int) := by omega
                      have hjy : j < (fs).length := by rw [HFl.out]; exact hlt
                      have q2 := HPw.out.cell 2
                      simp only [List.getElem?_toArray, List.getElem?_cons_zero, List.getElem?_cons_succ] at q2
                      have hc0 := HBw.out.cell j
                      rw [List.getElem?_toArray, List.getElem?_map, List.getElem?_eq_getElem (by rw [upTo_len]; exact hjy), upTo_at _ _ _ hjy, Option.map_some] at hc0
                      have hft := HFf.out _ (List.getElem_mem hjy)
                      have hmf := mul2_fits hdwd hft.1 hft.2
                      have HSt : Hid (∀ kk, Box ((wr.drewN kk).setCell ⟨g, j, none⟩ (iv (mul2 wd (fs)[j]))) g 3 ((upTo (mul2 wd) (fs) (j + 1)).map iv).toArray ∧ Only (Just g) w7 ((wr.drewN kk).setCell ⟨g, j, none⟩ (iv (mul2 wd (fs)[j])))) := Lib.hid (fun kk => by
                        have h := (HBw.out.drewN kk).put j (iv (mul2 wd (fs)[j]))
                        rw [set_ivs, upTo_set _ _ _ hjy] at h
                        exact ⟨h, (HOw.out.drewN kk).setCell (p := ⟨g, j, none⟩) (.inl rfl) _⟩)
                      have hfz := HBw.out.frozen j
                      generalize (fs)[j] = x at *
                      have hwy : IntKind.i64.wrap (x * 2 ^ wd) = mul2 wd x := K.w64k _ (by unfold mul2 at hmf; omega) (by unfold mul2 at hmf; omega)
                      generalize mul2 wd x = y at *
                      clear hmf hft hjy
                      go_wp2_with fail
                      have noOutT : ∀ j s, j < 9 → (([some 98, some 99, some 100, some 101, some 102, some 103, some 104, some 105, none] : List (Option Nat)).all fun d => d != some s) = true → ([some 98, some 99, some 100, some 101, some 102, some 103, some 104, some 105, none] : List (Option Nat)).getD j none ≠ some s := by
                        intro j s hj ha e
                        rw [List.getD_eq_getElem?_getD, List.getElem?_eq_getElem (by exact hj), Option.getD_some] at e
                        have := List.all_eq_true.1 ha _ (List.getElem_mem (by exact hj))
                        rw [e] at this
                        simp at this
                      refine region_val (by kernel_rfl) (fun k0 => ([some 98, some 99, some 100, some 101, some 102, some 103, some 104, some 105, none] : List (Option Nat)).getD k0 none) (fun k0 => ([(.slice (some ⟨g, 0, none⟩) n n), (iv j), (.pointer (some ⟨g, j, none⟩)), (iv x), (.pointer (some ⟨w1.heap.size, 2, none⟩)), (iv wd), (iv y), (.pointer (some ⟨g, j, none⟩)), (undef)] : List Value).getD k0 undef) (CaW 8 wr (fun u => Box u g 3 ((upTo (mul2 wd) (fs) (j + 1)).map iv).toArray ∧ Only (Just g) w7 u)) 110 9 rfl (by kernel_rfl) (by kernel_rfl) rfl (by kernel_rfl) (by kernel_rfl) ⟨fun _ => ⟨1, rfl⟩, fun e => by cases e⟩ ?stepsT [(98, .slice (some ⟨g, 0, none⟩) n n), (99, iv j), (100, .pointer (some ⟨g, j, none⟩)), (101, iv x), (102, .pointer (some ⟨w1.heap.size, 2, none⟩)), (103, iv wd), (104, iv y), (105, .pointer (some ⟨g, j, none⟩))] rfl ?doneT
                      case stepsT =>
                        refine ⟨?_, ?_, ?_, ?_, ?_, ?_, ?_, ?_, ?_, trivial⟩
                        · intro L A' u hW hL0 hnd K' hK
                          have r11 : A'.tmps[11]? = some (.slice (some ⟨g, 0, none⟩) n n) := (hW.out 11 (fun j hj => noOutT j 11 hj (by kernel_rfl))).trans rfl
                          go_simp
                          exact hK _ (hW.wi.same (by decide))
                        · intro L A' u hW hL0 hnd K' hK
                          have r13 : A'.tmps[13]? = some (iv j) := (hW.out 13 (fun j hj => noOutT j 13 hj (by kernel_rfl))).trans rfl
                          go_simp
                          exact hK _ (hW.wi.same (by decide))
                        · intro L A' u hW hL0 hnd K' hK
                          have r98 : A'.tmps[98]? = some (.slice (some ⟨g, 0, none⟩) n n) := hW.val 0 98 (by decide) (hnd 0 (by kernel_rfl)) rfl
                          have r99 : A'.tmps[99]? = some (iv j) := hW.val 1 99 (by decide) (hnd 1 (by kernel_rfl)) rfl
                          go_simp
                          exact hK _ (hW.wi.same (by decide))
                        · intro L A' u hW hL0 hnd K' hK
                          have r100 : A'.tmps[100]? = some (.pointer (some ⟨g, j, none⟩)) := hW.val 2 100 (by decide) (hnd 2 (by kernel_rfl)) rfl
                          have n6 : L 6 = false := notYet hW.closed (j := 6) (by rfl) (k := 3) (by kernel_rfl) hL0
                          have n8 : L 8 = false := notYet hW.closed (j := 8) (by rfl) (k := 6) (by kernel_rfl) n6
                          obtain ⟨kk, rfl⟩ := hW.wi.no n8
                          go_simp
                          exact hK _ (hW.wi.same (by decide))
                        · intro L A' u hW hL0 hnd K' hK
                          have r9 : A'.tmps[9]? = some (.pointer (some ⟨w1.heap.size, 0, none⟩)) := (hW.out 9 (fun j hj => noOutT j 9 hj (by kernel_rfl))).trans rfl
                          go_simp
                          exact hK _ (hW.wi.same (by decide))
                        · intro L A' u hW hL0 hnd K' hK
                          have r102 : A'.tmps[102]? = some (.pointer (some ⟨w1.heap.size, 2, none⟩)) := hW.val 4 102 (by decide) (hnd 4 (by kernel_rfl)) rfl
                          have n6 : L 6 = false := notYet hW.closed (j := 6) (by rfl) (k := 5) (by kernel_rfl) hL0
                          have n8 : L 8 = false := notYet hW.closed (j := 8) (by rfl) (k := 6) (by kernel_rfl) n6
                          obtain ⟨kk, rfl⟩ := hW.wi.no n8
                          go_simp
                          exact hK _ (hW.wi.same (by decide))
                        · intro L A' u hW hL0 hnd K' hK
                          have r101 : A'.tmps[101]? = some (iv x) := hW.val 3 101 (by decide) (hnd 3 (by kernel_rfl)) rfl
                          have r103 : A'.tmps[103]? = some (iv wd) := hW.val 5 103 (by decide) (hnd 5 (by kernel_rfl)) rfl
                          go_simp
                          first | rw [hwy] | skip
                          exact hK _ (hW.wi.same (by decide))
                        · intro L A' u hW hL0 hnd K' hK
                          have r98 : A'.tmps[98]? = some (.slice (some ⟨g, 0, none⟩) n n) := hW.val 0 98 (by decide) (hnd 0 (by kernel_rfl)) rfl
                          have r99 : A'.tmps[99]? = some (iv j) := hW.val 1 99 (by decide) (hnd 1 (by kernel_rfl)) rfl
                          go_simp
                          exact hK _ (hW.wi.same (by decide))
                        · intro L A' u hW hL0 hnd K' hK
                          have r105 : A'.tmps[105]? = some (.pointer (some ⟨g, j, none⟩)) := hW.val 7 105 (by decide) (hnd 7 (by kernel_rfl)) rfl
                          have r104 : A'.tmps[104]? = some (iv y) := hW.val 6 104 (by decide) (hnd 6 (by kernel_rfl)) rfl
                          obtain ⟨kk, rfl⟩ := hW.wi.no hL0
                          go_simp
                          exact hK _ (CaW.made (HSt.out kk))
                      case doneT =>
                        intro L u hWI hall
                        obtain ⟨hB4, ho4⟩ := hWI.yes (hall 8 (by decide))
                        clear hWI hall noOutT
                        have HB4 := Lib.hid hB4
                        have HO4' := Lib.hid ho4
                        clear hB4 ho4 HSt
                        simp only [putV, List.foldl_cons, List.foldl_nil, List.setIfInBounds_toArray, List.set_cons_zero, List.set_cons_succ]
                        go_wp2
                        go_roundw
                        case rel => exact ⟨j + 1, by omega, by go_num, HB4.out, HO4'.out⟩
                        case measure => simp [intOf]; omega
                    · have hjN : n = j := by omega
                      subst hjN
                      have HQw := Lib.hid (HBq7.out.only HOw.out (fun e => htq e))
                      have HRw := Lib.hid (rd_just HR7.out HBl7.out (by decide) htr HOw.out)
                      have HOx := Lib.hid (only_just HO7.out HOw.out hts)
                      have HBx : Hid (Box wr g 3 (((fs).map (mul2 wd)).map iv).toArray) := Lib.hid (by
                        have h := HBw.out
                        rwa [upTo_all _ _ _ (by rw [HFl.out]; exact Nat.le_refl _)] at h)
                      have htqn : w.heap.size + 1 < wr.heap.size := HQw.out.lt
                      clear HBw
                      have p0 := HPw.out.cell 0
                      have p1 := HPw.out.cell 1
                      have p2 := HPw.out.cell 2
                      have p3 := HPw.out.cell 3
                      have p4 := HPw.out.cell 4
                      have p5 := HPw.out.cell 5
                      have p6 := HPw.out.cell 6
                      have p7 := HPw.out.cell 7
                      have p8 := HPw.out.cell 8
                      have p9 := HPw.out.cell 9
                      simp only [List.getElem?_toArray, List.getElem?_cons_zero, List.getElem?_cons_succ] at p0 p1 p2 p3 p4 p5 p6 p7 p8 p9
                      go_wp2_with fail
                      have noOutF : ∀ j s, j < 6 → (([some 107, some 108, some 109, some 6, none, some 8] : List (Option Nat)).all fun d => d != some s) = true → ([some 107, some 108, some 109, some 6, none, some 8] : List (Option Nat)).getD j none ≠ some s := by
                        intro j s hj ha e
                        rw [List.getD_eq_getElem?_getD, List.getElem?_eq_getElem (by exact hj), Option.getD_some] at e
                        have := List.all_eq_true.1 ha _ (List.getElem_mem (by exact hj))
                        rw [e] at this
                        simp at this
                      refine region_val (by kernel_rfl) (fun k0 => ([some 107, some 108, some 109, some 6, none, some 8] : List (Option Nat)).getD k0 none) (fun k0 => ([(.slice (some ⟨g, 0, none⟩) n n), (.agg (spC 2 o wd 0 0 (.slice none 0 0) 0 0 (.slice none 0 0) (.slice none 0 0))), (iv E), (.slice (some ⟨g, 0, none⟩) n n), (undef), (iv E)] : List Value).getD k0 undef) (CaW 4 wr (fun u => Box u (w.heap.size + 1) 28 (spC 2 o wd 0 0 (.slice none 0 0) 0 0 (.slice none 0 0) (.slice none 0 0)) ∧ Only (Just (w.heap.size + 1)) wr u)) 110 6 rfl (by kernel_rfl) (by kernel_rfl) rfl (by kernel_rfl) (by kernel_rfl) ⟨fun _ => ⟨1, rfl⟩, fun e => by cases e⟩ ?stepsF [(107, .slice (some ⟨g, 0, none⟩) n n), (108, .agg (spC 2 o wd 0 0 (.slice none 0 0) 0 0 (.slice none 0 0) (.slice none 0 0))), (109, iv E), (6, .slice (some ⟨g, 0, none⟩) n n), (8, iv E)] rfl ?doneF
                      case stepsF =>
                        refine ⟨?_, ?_, ?_, ?_, ?_, ?_, trivial⟩
                        · intro L A' u hW hL0 hnd K' hK
                          have r11 : A'.tmps[11]? = some (.slice (some ⟨g, 0, none⟩) n n) := (hW.out 11 (fun j hj => noOutF j 11 hj (by kernel_rfl))).trans rfl
                          go_simp
                          exact hK _ (hW.wi.same (by decide))
                        · intro L A' u hW hL0 hnd K' hK
                          have r9 : A'.tmps[9]? = some (.pointer (some ⟨w1.heap.size, 0, none⟩)) := (hW.out 9 (fun j hj => noOutF j 9 hj (by kernel_rfl))).trans rfl
                          have n4 : L 4 = false := notYet hW.closed (j := 4) (by rfl) (k := 1) (by kernel_rfl) hL0
                          obtain ⟨kk, rfl⟩ := hW.wi.no n4
                          go_simp
                          exact hK _ (hW.wi.same (by decide))
                        · intro L A' u hW hL0 hnd K' hK
                          have r10 : A'.tmps[10]? = some (iv E) := (hW.out 10 (fun j hj => noOutF j 10 hj (by kernel_rfl))).trans rfl
                          go_simp
                          exact hK _ (hW.wi.same (by decide))
                        · intro L A' u hW hL0 hnd K' hK
                          have r107 : A'.tmps[107]? = some (.slice (some ⟨g, 0, none⟩) n n) := hW.val 0 107 (by decide) (hnd 0 (by kernel_rfl)) rfl
                          go_simp
                          exact hK _ (hW.wi.same (by decide))
                        · intro L A' u hW hL0 hnd K' hK
                          have r7 : A'.tmps[7]? = some (.pointer (some ⟨w.heap.size + 1, 0, none⟩)) := (hW.out 7 (fun j hj => noOutF j 7 hj (by kernel_rfl))).trans rfl
                          have r108 : A'.tmps[108]? = some (.agg (spC 2 o wd 0 0 (.slice none 0 0) 0 0 (.slice none 0 0) (.slice none 0 0))) := hW.val 1 108 (by decide) (hnd 1 (by kernel_rfl)) rfl
                          obtain ⟨kk, rfl⟩ := hW.wi.no hL0
                          refine step_store_row rfl 28 (.tmp 7) (.tmp 108) rfl rfl (w.heap.size + 1) 28 zC (spC 2 o wd 0 0 (.slice none 0 0) 0 0 (.slice none 0 0) (.slice none 0 0)) (by simp [Act.eval, r7]) (by simp [Act.eval, r108]) (HQw.out.drewN kk) Tryz.size_plan rfl (spC_one _ _ _ _ _ _ _ _ _ _ _ _ _ _ _ _) ?_
                          intro u' hb' ho'
                          exact hK _ (CaW.made ⟨hb', ⟨ho'.os, ho'.tape, ho'.output, ho'.size, ho'.block⟩⟩)
                        · intro L A' u hW hL0 hnd K' hK
                          have r109 : A'.tmps[109]? = some (iv E) := hW.val 2 109 (by decide) (hnd 2 (by kernel_rfl)) rfl
                          go_simp
                          exact hK _ (hW.wi.same (by decide))
                      case doneF =>
                        intro L u hWI hall
                        obtain ⟨hB4, ho4⟩ := hWI.yes (hall 4 (by decide))
                        clear hWI hall noOutF
                        have Z1 := Lib.hid (rd_just HRw.out HQw.out (by decide) hnq ho4)
                        have Z2 := Lib.hid (only_just HOx.out ho4 (by omega))
                        have ZF := Lib.hid ho4
                        have ZL := Lib.hid (HBx.out.only ho4 (fun e => htq e.symm))
                        have y0 := hB4.cell 0
                        have y1 := hB4.cell 1
                        have y2 := hB4.cell 2
                        have y3 := hB4.cell 3
                        have y4 := hB4.cell 4
                        have y5 := hB4.cell 5
                        have y6 := hB4.cell 6
                        have y7 := hB4.cell 7
                        have y8 := hB4.cell 8
                        have y9 := hB4.cell 9
                        simp only [List.getElem?_toArray, List.getElem?_cons_zero, List.getElem?_cons_succ] at y0 y1 y2 y3 y4 y5 y6 y7 y8 y9
                        clear hB4 ho4
                        simp only [putV, List.foldl_cons, List.foldl_nil, List.setIfInBounds_toArray, List.set_cons_zero, List.set_cons_succ]
                        go_wp2
                        refine bodyPost_ret (v := .tuple #[.slice (some ⟨g, 0, none⟩) n n, spV 2 o wd 0 0 (.slice none 0 0) 0 0 (.slice none 0 0) (.slice none 0 0), iv E]) ?_ rfl ?_
                        · simp [results, Tryz.f44, go_sem, y0, y1, y2, y3, y4, y5, y6, y7, y8, y9]
                        refine .inl ⟨_, _, E, _, rfl, rfl, (spC_one _ _ _ _ _ _ _ _ _ _ _ _ _ _ _ _), by rcases HE.out with h | h | h | h <;> omega, Z1.out, Z2.out, fun k' o' wd' lp' ls' cs' m' ro' ps' ws' xs' a' h => ?_⟩
                        obtain ⟨ys, h⟩ := HChn.out _ _ _ _ _ _ _ _ _ _ _ _ h
                        rcases h with ⟨h, _⟩ | ⟨h, _⟩ | ⟨_, _, _, _, m2, ro2, rs2, _, _, hP, _, _, hRk, _⟩ | ⟨h, _⟩
                        · omega
                        · omega
                        rotate_left
                        · omega
                        exact HNo.out _ _ _ _ hP
              · have HBp6 := Lib.hid (HBp5.out.only o6 (fun e => hnp e))
                have HBq6 := Lib.hid (HBq5.out.only o6 (fun e => hnq e))
                have HBl6 := Lib.hid (HBl5.out.only o6 (fun e => hgr e))
                have HR6 := Lib.hid hR6
                have HO6 := Lib.hid (HO5.out.trans o6)
                have hgpn : gp ≠ w1.heap.size := box_ne kp HBp6.out (by decide)
                have hgbn : gb ≠ w1.heap.size := box_ne kb HBp6.out (by decide)
                have hgdn : gd ≠ w1.heap.size := box_ne kd HBp6.out (by decide)
                have hgpq : gp ≠ w.heap.size + 1 := box_ne kp HBq6.out (by decide)
                have hgbq : gb ≠ w.heap.size + 1 := box_ne kb HBq6.out (by decide)
                have hgpl := kp.lt
                have hgbl := kb.lt
                have HSp := Lib.hid (ISb.mk' sp kp)
                have HSb := Lib.hid (ISb.mk' sb kb)
                have HSd := Lib.hid (ISb.mk' sd kd)
                have HPa := Lib.hid hp
                clear hR6 o6 hp sp sb sd kp kb kd hr0 HRr p0 p1 p2 p3 p4 p5 p6 p7 p8 p9
                go_wp2_with (refine wpList_store_part rfl 26 (.tmp 79) (.tmp 77) rfl rfl w1.heap.size 6 28 (spC 2 o wd 0 0 (.slice none 0 0) 0 0 (.slice none 0 0) (.slice none 0 0)) #[iv m, iv ro, .slice (some ⟨gp, 0, none⟩) Q Q, .slice (some ⟨gb, 0, none⟩) Q Q] (spC 2 o wd 0 0 (.slice none 0 0) m ro (.slice (some ⟨gp, 0, none⟩) Q Q) (.slice (some ⟨gb, 0, none⟩) Q Q)) rfl rfl HBp6.out Tryz.size_rplan (by simp) (by simp [Value.oneCell']) rfl ?st)
                case st =>
                  intro w7 hb7 o7
                  have HBp7 := Lib.hid hb7
                  have HBq7 := Lib.hid (HBq6.out.only o7 (fun e => hpq e))
                  have HBl7 := Lib.hid (HBl6.out.only o7 (fun e => hgp e))
                  have HR7 := Lib.hid (rd_just HR6.out HBp6.out (by decide) hnp o7)
                  have HO7 := Lib.hid (only_just HO6.out o7 (by omega))
                  have hs9 := o7.size
                  have HSp7 := Lib.hid (isrc_just HSp.out o7 hgpn)
                  have HSb7 := Lib.hid (isrc_just HSb.out o7 hgbn)
                  have HSd7 := Lib.hid (isrc_just HSd.out o7 hgdn)
                  obtain ⟨ds, hds⟩ : ∃ ds, (rs.map (·.2.2)).flatten = ds := ⟨_, rfl⟩
                  rw [hds] at HSd7
                  have Hds := Lib.hid hds
                  have hbo : b - o ≤ 1000 := by omega
                  have HFs7 : Hid (ISrc w7 (.slice (some ⟨g, 0, none⟩) n n) fs) := Lib.hid (ISrc.of_box (t := 3) HBl7.out HFl.out (Nat.le_refl _) (by rw [HFl.out]; omega) (fun x hx => by
                    have h := HFf.out x hx
                    have h2 := mul2_fits (wd := 0) (by omega : dp + 0 ≤ 33) h.1 h.2
                    unfold mul2 at h2
                    omega))
                  have HRs := Lib.hid (restored_any (w := w7) 2 o wd 0 0  none 0 0 m ro (some ⟨gp, 0, none⟩) (some ⟨gb, 0, none⟩) Q Q Q Q 4 0 (K.fx o) dp (by omega) (by omega) (some ⟨g, 0, none⟩) n n fs (some ⟨gd, 0, none⟩) (b - o) (b - o) ds (fun u hu => prediction_2 o ho4 wd 0 0 none 0 0 m ro (some ⟨gp, 0, none⟩) (some ⟨gb, 0, none⟩) Q Q Q Q) HFs7.out HSd7.out.src hbo (by rw [HFl.out]; exact by rw [K.fx_len o ho4]; have h := Hn.out; simp [plM, hkz] at h; omega))
                  clear hb7 o7 hds HSp HSb HSd
                  have p0 := HBp7.out.cell 0
                  have p1 := HBp7.out.cell 1
                  have p2 := HBp7.out.cell 2
                  have p3 := HBp7.out.cell 3
                  have p4 := HBp7.out.cell 4
                  have p5 := HBp7.out.cell 5
                  have p6 := HBp7.out.cell 6
                  have p7 := HBp7.out.cell 7
                  have p8 := HBp7.out.cell 8
                  have p9 := HBp7.out.cell 9
                  simp only [List.getElem?_toArray, List.getElem?_cons_zero, List.getElem?_cons_succ] at p0 p1 p2 p3 p4 p5 p6 p7 p8 p9
                  go_wp2_with fail
                  refine (HRs.out).mono ?_
                  intro e w8 hrd
                  have HBp8 := Lib.hid (HBp7.out.only hrd.only (fun e => e))
                  have HBq8 := Lib.hid (HBq7.out.only hrd.only (fun e => e))
                  have HR8 := Lib.hid (HR7.out.nix hrd.only)
                  have HO8 := Lib.hid (HO7.out.trans hrd.only.nix)
                  have HSp8 := Lib.hid (HSp7.out.nix hrd.only)
                  have HSb8 := Lib.hid (HSb7.out.nix hrd.only)
                  have hs10 := hrd.only.size
                  have hp10 : w1.heap.size < w7.heap.size := HBp7.out.lt
                  have HRd := Lib.hid hrd
                  clear hrd HRs p0 p1 p2 p3 p4 p5 p6 p7 p8 p9
                  by_cases hRs : RsOk 4 0 (K.fx o) dp fs ds
                  · obtain ⟨g9, he, hb9, hg9⟩ := HRd.out.good hRs
                    subst he
                    have HRs := Lib.hid hRs
                    have HN2 : Hid ((rstV 4 0 (K.fx o) fs ds).length ≤ 2000) := Lib.hid (by
                      unfold rstV
                      rw [if_pos hRs.1, K.curK_len, HFl.out, ← HSd7.out.src.len]
                      omega)
                    have hft : ∀ x ∈ rstV 4 0 (K.fx o) fs ds, -(2 ^ dp : Int) ≤ x ∧ x ≤ (2 ^ dp : Int) := fun x hx => by
                      have h := hRs.2 x hx
                      exact pow_pred_le h.1 h.2
                    obtain ⟨ys, hys⟩ : ∃ ys, rstV 4 0 (K.fx o) fs ds = ys := ⟨_, rfl⟩
                    rw [hys] at hb9 HN2 hft ⊢
                    obtain ⟨N, hN⟩ : ∃ N, ys.length = N := ⟨_, rfl⟩
                    rw [hN] at HN2 ⊢
                    have hN2 := HN2.out
                    have HYf := Lib.hid hft
                    have HYl := Lib.hid hN
                    have Hys := Lib.hid hys
                    have HBl8 := Lib.hid hb9
                    have hg9p : gp ≠ g9 := by omega
                    have hg9b : gb ≠ g9 := by omega
                    have hg91 : w1.heap.size < g9 := by omega
                    clear hRs HRd hft hN hys hb9
                    have hTb : Box w8 g9 3 ((upTo (mul2 wd) ys 0).map iv).toArray := by rw [upTo_zero]; exact HBl8.out
                    have HTb := Lib.hid hTb
                    have htp : w1.heap.size ≠ g9 := by omega
                    have htq : w.heap.size + 1 ≠ g9 := by omega
                    have htr : g9 ≠ r := by omega
                    have hts : w.heap.size ≤ g9 := by omega
                    clear hTb
                    go_wp2
                    go_loopw [95] (fun s wr => TlP w8 g9 (mul2 wd) ys N s wr) (fun s _ => N - (intOf s).toNat)
                    case atStart => exact ⟨0, Nat.zero_le _, rfl, HTb.out, Only.refl _ _⟩
                    case round =>
                      obtain ⟨j, hj, rfl, hb, hO⟩ := hrel
                      have HBw := Lib.hid hb
                      have HOw := Lib.hid hO
                      have HPw := Lib.hid (HBp8.out.only hO (fun e => htp e))
                      clear hb hO
                      by_cases hlt : j < N
                      · have hlt2 : (j : Int) < (N : Int) := by omega
                        have hjy : j < (ys).length := by rw [HYl.out]; exact hlt
                        have q2 := HPw.out.cell 2
                        simp only [List.getElem?_toArray, List.getElem?_cons_zero, List.getElem?_cons_succ] at q2
                        have hc0 := HBw.out.cell j
                        rw [List.getElem?_toArray, List.getElem?_map, List.getElem?_eq_getElem (by rw [upTo_len]; exact hjy), upTo_at _ _ _ hjy, Option.map_some] at hc0
                        have hft := HYf.out _ (List.getElem_mem hjy)
                        have hmf := mul2_fits hdwd hft.1 hft.2
                        have HSt : Hid (∀ kk, Box ((wr.drewN kk).setCell ⟨g9, j, none⟩ (iv (mul2 wd (ys)[j]))) g9 3 ((upTo (mul2 wd) (ys) (j + 1)).map iv).toArray ∧ Only (Just g9) w8 ((wr.drewN kk).setCell ⟨g9, j, none⟩ (iv (mul2 wd (ys)[j])))) := Lib.hid (fun kk => by
                          have h := (HBw.out.drewN kk).put j (iv (mul2 wd (ys)[j]))
                          rw [set_ivs, upTo_set _ _ _ hjy] at h
                          exact ⟨h, (HOw.out.drewN kk).setCell (p := ⟨g9, j, none⟩) (.inl rfl) _⟩)
                        have hfz := HBw.out.frozen j
                        generalize (ys)[j] = x at *
                        have hwy : IntKind.i64.wrap (x * 2 ^ wd) = mul2 wd x := K.w64k _ (by unfold mul2 at hmf; omega) (by unfold mul2 at hmf; omega)
                        generalize mul2 wd x = y at *
                        clear hmf hft hjy
                        go_wp2_with fail
                        have noOutT : ∀ j s, j < 9 → (([some 98, some 99, some 100, some 101, some 102, some 103, some 104, some 105, none] : List (Option Nat)).all fun d => d != some s) = true → ([some 98, some 99, some 100, some 101, some 102, some 103, some 104, some 105, none] : List (Option Nat)).getD j none ≠ some s := by
                          intro j s hj ha e
                          rw [List.getD_eq_getElem?_getD, List.getElem?_eq_getElem (by exact hj), Option.getD_some] at e
                          have := List.all_eq_true.1 ha _ (List.getElem_mem (by exact hj))
                          rw [e] at this
                          simp at this
                        refine region_val (by kernel_rfl) (fun k0 => ([some 98, some 99, some 100, some 101, some 102, some 103, some 104, some 105, none] : List (Option Nat)).getD k0 none) (fun k0 => ([(.slice (some ⟨g9, 0, none⟩) N N), (iv j), (.pointer (some ⟨g9, j, none⟩)), (iv x), (.pointer (some ⟨w1.heap.size, 2, none⟩)), (iv wd), (iv y), (.pointer (some ⟨g9, j, none⟩)), (undef)] : List Value).getD k0 undef) (CaW 8 wr (fun u => Box u g9 3 ((upTo (mul2 wd) (ys) (j + 1)).map iv).toArray ∧ Only (Just g9) w8 u)) 110 9 rfl (by kernel_rfl) (by kernel_rfl) rfl (by kernel_rfl) (by kernel_rfl) ⟨fun _ => ⟨1, rfl⟩, fun e => by cases e⟩ ?stepsT [(98, .slice (some ⟨g9, 0, none⟩) N N), (99, iv j), (100, .pointer (some ⟨g9, j, none⟩)), (101, iv x), (102, .pointer (some ⟨w1.heap.size, 2, none⟩)), (103, iv wd), (104, iv y), (105, .pointer (some ⟨g9, j, none⟩))] rfl ?doneT
                        case stepsT =>
                          refine ⟨?_, ?_, ?_, ?_, ?_, ?_, ?_, ?_, ?_, trivial⟩
                          · intro L A' u hW hL0 hnd K' hK
                            have r11 : A'.tmps[11]? = some (.slice (some ⟨g9, 0, none⟩) N N) := (hW.out 11 (fun j hj => noOutT j 11 hj (by kernel_rfl))).trans rfl
                            go_simp
                            exact hK _ (hW.wi.same (by decide))
                          · intro L A' u hW hL0 hnd K' hK
                            have r13 : A'.tmps[13]? = some (iv j) := (hW.out 13 (fun j hj => noOutT j 13 hj (by kernel_rfl))).trans rfl
                            go_simp
                            exact hK _ (hW.wi.same (by decide))
                          · intro L A' u hW hL0 hnd K' hK
                            have r98 : A'.tmps[98]? = some (.slice (some ⟨g9, 0, none⟩) N N) := hW.val 0 98 (by decide) (hnd 0 (by kernel_rfl)) rfl
                            have r99 : A'.tmps[99]? = some (iv j) := hW.val 1 99 (by decide) (hnd 1 (by kernel_rfl)) rfl
                            go_simp
                            exact hK _ (hW.wi.same (by decide))
                          · intro L A' u hW hL0 hnd K' hK
                            have r100 : A'.tmps[100]? = some (.pointer (some ⟨g9, j, none⟩)) := hW.val 2 100 (by decide) (hnd 2 (by kernel_rfl)) rfl
                            have n6 : L 6 = false := notYet hW.closed (j := 6) (by rfl) (k := 3) (by kernel_rfl) hL0
                            have n8 : L 8 = false := notYet hW.closed (j := 8) (by rfl) (k := 6) (by kernel_rfl) n6
                            obtain ⟨kk, rfl⟩ := hW.wi.no n8
                            go_simp
                            exact hK _ (hW.wi.same (by decide))
                          · intro L A' u hW hL0 hnd K' hK
                            have r9 : A'.tmps[9]? = some (.pointer (some ⟨w1.heap.size, 0, none⟩)) := (hW.out 9 (fun j hj => noOutT j 9 hj (by kernel_rfl))).trans rfl
                            go_simp
                            exact hK _ (hW.wi.same (by decide))
                          · intro L A' u hW hL0 hnd K' hK
                            have r102 : A'.tmps[102]? = some (.pointer (some ⟨w1.heap.size, 2, none⟩)) := hW.val 4 102 (by decide) (hnd 4 (by kernel_rfl)) rfl
                            have n6 : L 6 = false := notYet hW.closed (j := 6) (by rfl) (k := 5) (by kernel_rfl) hL0
                            have n8 : L 8 = false := notYet hW.closed (j := 8) (by rfl) (k := 6) (by kernel_rfl) n6
                            obtain ⟨kk, rfl⟩ := hW.wi.no n8
                            go_simp
                            exact hK _ (hW.wi.same (by decide))
                          · intro L A' u hW hL0 hnd K' hK
                            have r101 : A'.tmps[101]? = some (iv x) := hW.val 3 101 (by decide) (hnd 3 (by kernel_rfl)) rfl
                            have r103 : A'.tmps[103]? = some (iv wd) := hW.val 5 103 (by decide) (hnd 5 (by kernel_rfl)) rfl
                            go_simp
                            first | rw [hwy] | skip
                            exact hK _ (hW.wi.same (by decide))
                          · intro L A' u hW hL0 hnd K' hK
                            have r98 : A'.tmps[98]? = some (.slice (some ⟨g9, 0, none⟩) N N) := hW.val 0 98 (by decide) (hnd 0 (by kernel_rfl)) rfl
                            have r99 : A'.tmps[99]? = some (iv j) := hW.val 1 99 (by decide) (hnd 1 (by kernel_rfl)) rfl
                            go_simp
                            exact hK _ (hW.wi.same (by decide))
                          · intro L A' u hW hL0 hnd K' hK
                            have r105 : A'.tmps[105]? = some (.pointer (some ⟨g9, j, none⟩)) := hW.val 7 105 (by decide) (hnd 7 (by kernel_rfl)) rfl
                            have r104 : A'.tmps[104]? = some (iv y) := hW.val 6 104 (by decide) (hnd 6 (by kernel_rfl)) rfl
                            obtain ⟨kk, rfl⟩ := hW.wi.no hL0
                            go_simp
                            exact hK _ (CaW.made (HSt.out kk))
                        case doneT =>
                          intro L u hWI hall
                          obtain ⟨hB4, ho4⟩ := hWI.yes (hall 8 (by decide))
                          clear hWI hall noOutT
                          have HB4 := Lib.hid hB4
                          have HO4' := Lib.hid ho4
                          clear hB4 ho4 HSt
                          simp only [putV, List.foldl_cons, List.foldl_nil, List.setIfInBounds_toArray, List.set_cons_zero, List.set_cons_succ]
                          go_wp2
                          go_roundw
                          case rel => exact ⟨j + 1, by omega, by go_num, HB4.out, HO4'.out⟩
                          case measure => simp [intOf]; omega
                      · have hjN : N = j := by omega
                        subst hjN
                        have HQw := Lib.hid (HBq8.out.only HOw.out (fun e => htq e))
                        have HRw := Lib.hid (rd_just HR8.out HBl8.out (by decide) htr HOw.out)
                        have HOx := Lib.hid (only_just HO8.out HOw.out hts)
                        have HBx : Hid (Box wr g9 3 (((ys).map (mul2 wd)).map iv).toArray) := Lib.hid (by
                          have h := HBw.out
                          rwa [upTo_all _ _ _ (by rw [HYl.out]; exact Nat.le_refl _)] at h)
                        have htqn : w.heap.size + 1 < wr.heap.size := HQw.out.lt
                        clear HBw
                        have p0 := HPw.out.cell 0
                        have p1 := HPw.out.cell 1
                        have p2 := HPw.out.cell 2
                        have p3 := HPw.out.cell 3
                        have p4 := HPw.out.cell 4
                        have p5 := HPw.out.cell 5
                        have p6 := HPw.out.cell 6
                        have p7 := HPw.out.cell 7
                        have p8 := HPw.out.cell 8
                        have p9 := HPw.out.cell 9
                        simp only [List.getElem?_toArray, List.getElem?_cons_zero, List.getElem?_cons_succ] at p0 p1 p2 p3 p4 p5 p6 p7 p8 p9
                        go_wp2_with fail
                        have noOutF : ∀ j s, j < 6 → (([some 107, some 108, some 109, some 6, none, some 8] : List (Option Nat)).all fun d => d != some s) = true → ([some 107, some 108, some 109, some 6, none, some 8] : List (Option Nat)).getD j none ≠ some s := by
                          intro j s hj ha e
                          rw [List.getD_eq_getElem?_getD, List.getElem?_eq_getElem (by exact hj), Option.getD_some] at e
                          have := List.all_eq_true.1 ha _ (List.getElem_mem (by exact hj))
                          rw [e] at this
                          simp at this
                        refine region_val (by kernel_rfl) (fun k0 => ([some 107, some 108, some 109, some 6, none, some 8] : List (Option Nat)).getD k0 none) (fun k0 => ([(.slice (some ⟨g9, 0, none⟩) N N), (.agg (spC 2 o wd 0 0 (.slice none 0 0) m ro (.slice (some ⟨gp, 0, none⟩) Q Q) (.slice (some ⟨gb, 0, none⟩) Q Q))), (iv 0), (.slice (some ⟨g9, 0, none⟩) N N), (undef), (iv 0)] : List Value).getD k0 undef) (CaW 4 wr (fun u => Box u (w.heap.size + 1) 28 (spC 2 o wd 0 0 (.slice none 0 0) m ro (.slice (some ⟨gp, 0, none⟩) Q Q) (.slice (some ⟨gb, 0, none⟩) Q Q)) ∧ Only (Just (w.heap.size + 1)) wr u)) 110 6 rfl (by kernel_rfl) (by kernel_rfl) rfl (by kernel_rfl) (by kernel_rfl) ⟨fun _ => ⟨1, rfl⟩, fun e => by cases e⟩ ?stepsF [(107, .slice (some ⟨g9, 0, none⟩) N N), (108, .agg (spC 2 o wd 0 0 (.slice none 0 0) m ro (.slice (some ⟨gp, 0, none⟩) Q Q) (.slice (some ⟨gb, 0, none⟩) Q Q))), (109, iv 0), (6, .slice (some ⟨g9, 0, none⟩) N N), (8, iv 0)] rfl ?doneF
                        case stepsF =>
                          refine ⟨?_, ?_, ?_, ?_, ?_, ?_, trivial⟩
                          · intro L A' u hW hL0 hnd K' hK
                            have r11 : A'.tmps[11]? = some (.slice (some ⟨g9, 0, none⟩) N N) := (hW.out 11 (fun j hj => noOutF j 11 hj (by kernel_rfl))).trans rfl
                            go_simp
                            exact hK _ (hW.wi.same (by decide))
                          · intro L A' u hW hL0 hnd K' hK
                            have r9 : A'.tmps[9]? = some (.pointer (some ⟨w1.heap.size, 0, none⟩)) := (hW.out 9 (fun j hj => noOutF j 9 hj (by kernel_rfl))).trans rfl
                            have n4 : L 4 = false := notYet hW.closed (j := 4) (by rfl) (k := 1) (by kernel_rfl) hL0
                            obtain ⟨kk, rfl⟩ := hW.wi.no n4
                            go_simp
                            exact hK _ (hW.wi.same (by decide))
                          · intro L A' u hW hL0 hnd K' hK
                            have r10 : A'.tmps[10]? = some (iv 0) := (hW.out 10 (fun j hj => noOutF j 10 hj (by kernel_rfl))).trans rfl
                            go_simp
                            exact hK _ (hW.wi.same (by decide))
                          · intro L A' u hW hL0 hnd K' hK
                            have r107 : A'.tmps[107]? = some (.slice (some ⟨g9, 0, none⟩) N N) := hW.val 0 107 (by decide) (hnd 0 (by kernel_rfl)) rfl
                            go_simp
                            exact hK _ (hW.wi.same (by decide))
                          · intro L A' u hW hL0 hnd K' hK
                            have r7 : A'.tmps[7]? = some (.pointer (some ⟨w.heap.size + 1, 0, none⟩)) := (hW.out 7 (fun j hj => noOutF j 7 hj (by kernel_rfl))).trans rfl
                            have r108 : A'.tmps[108]? = some (.agg (spC 2 o wd 0 0 (.slice none 0 0) m ro (.slice (some ⟨gp, 0, none⟩) Q Q) (.slice (some ⟨gb, 0, none⟩) Q Q))) := hW.val 1 108 (by decide) (hnd 1 (by kernel_rfl)) rfl
                            obtain ⟨kk, rfl⟩ := hW.wi.no hL0
                            refine step_store_row rfl 28 (.tmp 7) (.tmp 108) rfl rfl (w.heap.size + 1) 28 zC (spC 2 o wd 0 0 (.slice none 0 0) m ro (.slice (some ⟨gp, 0, none⟩) Q Q) (.slice (some ⟨gb, 0, none⟩) Q Q)) (by simp [Act.eval, r7]) (by simp [Act.eval, r108]) (HQw.out.drewN kk) Tryz.size_plan rfl (spC_one _ _ _ _ _ _ _ _ _ _ _ _ _ _ _ _) ?_
                            intro u' hb' ho'
                            exact hK _ (CaW.made ⟨hb', ⟨ho'.os, ho'.tape, ho'.output, ho'.size, ho'.block⟩⟩)
                          · intro L A' u hW hL0 hnd K' hK
                            have r109 : A'.tmps[109]? = some (iv 0) := hW.val 2 109 (by decide) (hnd 2 (by kernel_rfl)) rfl
                            go_simp
                            exact hK _ (hW.wi.same (by decide))
                        case doneF =>
                          intro L u hWI hall
                          obtain ⟨hB4, ho4⟩ := hWI.yes (hall 4 (by decide))
                          clear hWI hall noOutF
                          have Z1 := Lib.hid (rd_just HRw.out HQw.out (by decide) hnq ho4)
                          have Z2 := Lib.hid (only_just HOx.out ho4 (by omega))
                          have ZF := Lib.hid ho4
                          have ZL := Lib.hid (HBx.out.only ho4 (fun e => htq e.symm))
                          have y0 := hB4.cell 0
                          have y1 := hB4.cell 1
                          have y2 := hB4.cell 2
                          have y3 := hB4.cell 3
                          have y4 := hB4.cell 4
                          have y5 := hB4.cell 5
                          have y6 := hB4.cell 6
                          have y7 := hB4.cell 7
                          have y8 := hB4.cell 8
                          have y9 := hB4.cell 9
                          simp only [List.getElem?_toArray, List.getElem?_cons_zero, List.getElem?_cons_succ] at y0 y1 y2 y3 y4 y5 y6 y7 y8 y9
                          clear hB4 ho4
                          simp only [putV, List.foldl_cons, List.foldl_nil, List.setIfInBounds_toArray, List.set_cons_zero, List.set_cons_succ]
                          go_wp2
                          refine bodyPost_ret (v := .tuple #[.slice (some ⟨g9, 0, none⟩) N N, spV 2 o wd 0 0 (.slice none 0 0) m ro (.slice (some ⟨gp, 0, none⟩) Q Q) (.slice (some ⟨gb, 0, none⟩) Q Q), iv 0]) ?_ rfl ?_
                          · simp [results, Tryz.f44, go_sem, y0, y1, y2, y3, y4, y5, y6, y7, y8, y9]
                          exact .inr ⟨k, o, wd, 0, 0, [], m, ro, rs.map (·.1), rs.map (·.2.1), _, a5, some ⟨g9, 0, none⟩, none, some ⟨gp, 0, none⟩, some ⟨gb, 0, none⟩, N, N, 0, 0, Q, Q, Q, Q, by rw [hkz], HChk.out _ _ _ _ _ _ _ _ _ ((.inr (.inr (.inl ⟨hk, rfl, rfl, rfl, m, ro, rs, rfl, rfl, HPa.out, rfl, rfl, by rw [Hds.out]; exact HRs.out, by rw [Hds.out]; exact Hys.out.symm⟩)))), ISb.of_box ZL.out (by rw [List.length_map, HYl.out]) (by rw [List.length_map, HYl.out]; omega) (mul2_all hdwd HYf.out), ISb.nil _, isrc_just (isrc_just HSp8.out HOw.out hg9p) ZF.out hgpq, isrc_just (isrc_just HSb8.out HOw.out hg9b) ZF.out hgbq, Z1.out, Z2.out⟩
                  · have he := HRd.out.bad hRs
                    subst he
                    have HRs := Lib.hid hRs
                    clear hRs HRd
                    have hqn := HBq8.out.lt
                    have p0 := HBp8.out.cell 0
                    have p1 := HBp8.out.cell 1
                    have p2 := HBp8.out.cell 2
                    have p3 := HBp8.out.cell 3
                    have p4 := HBp8.out.cell 4
                    have p5 := HBp8.out.cell 5
                    have p6 := HBp8.out.cell 6
                    have p7 := HBp8.out.cell 7
                    have p8 := HBp8.out.cell 8
                    have p9 := HBp8.out.cell 9
                    simp only [List.getElem?_toArray, List.getElem?_cons_zero, List.getElem?_cons_succ] at p0 p1 p2 p3 p4 p5 p6 p7 p8 p9
                    go_wp2
                    go_loopw [95] (fun s wr => TnP w8 s wr) (fun _ _ => 0)
                    case atStart => exact ⟨rfl, rfl⟩
                    case round =>
                      obtain ⟨rfl, hwr⟩ := hrel
                      subst hwr
                      go_wp2_with fail
                      have noOutF : ∀ j s, j < 6 → (([some 107, some 108, some 109, some 6, none, some 8] : List (Option Nat)).all fun d => d != some s) = true → ([some 107, some 108, some 109, some 6, none, some 8] : List (Option Nat)).getD j none ≠ some s := by
                        intro j s hj ha e
                        rw [List.getD_eq_getElem?_getD, List.getElem?_eq_getElem (by exact hj), Option.getD_some] at e
                        have := List.all_eq_true.1 ha _ (List.getElem_mem (by exact hj))
                        rw [e] at this
                        simp at this
                      refine region_val (by kernel_rfl) (fun k0 => ([some 107, some 108, some 109, some 6, none, some 8] : List (Option Nat)).getD k0 none) (fun k0 => ([((.slice none 0 0)), (.agg (spC 2 o wd 0 0 (.slice none 0 0) m ro (.slice (some ⟨gp, 0, none⟩) Q Q) (.slice (some ⟨gb, 0, none⟩) Q Q))), (iv 10), ((.slice none 0 0)), (undef), (iv 10)] : List Value).getD k0 undef) (CaW 4 w8 (fun u => Box u (w.heap.size + 1) 28 (spC 2 o wd 0 0 (.slice none 0 0) m ro (.slice (some ⟨gp, 0, none⟩) Q Q) (.slice (some ⟨gb, 0, none⟩) Q Q)) ∧ Only (Just (w.heap.size + 1)) w8 u)) 110 6 rfl (by kernel_rfl) (by kernel_rfl) rfl (by kernel_rfl) (by kernel_rfl) ⟨fun _ => ⟨1, rfl⟩, fun e => by cases e⟩ ?stepsF [(107, (.slice none 0 0)), (108, .agg (spC 2 o wd 0 0 (.slice none 0 0) m ro (.slice (some ⟨gp, 0, none⟩) Q Q) (.slice (some ⟨gb, 0, none⟩) Q Q))), (109, iv 10), (6, (.slice none 0 0)), (8, iv 10)] rfl ?doneF
                      case stepsF =>
                        refine ⟨?_, ?_, ?_, ?_, ?_, ?_, trivial⟩
                        · intro L A' u hW hL0 hnd K' hK
                          have r11 : A'.tmps[11]? = some ((.slice none 0 0)) := (hW.out 11 (fun j hj => noOutF j 11 hj (by kernel_rfl))).trans rfl
                          go_simp
                          exact hK _ (hW.wi.same (by decide))
                        · intro L A' u hW hL0 hnd K' hK
                          have r9 : A'.tmps[9]? = some (.pointer (some ⟨w1.heap.size, 0, none⟩)) := (hW.out 9 (fun j hj => noOutF j 9 hj (by kernel_rfl))).trans rfl
                          have n4 : L 4 = false := notYet hW.closed (j := 4) (by rfl) (k := 1) (by kernel_rfl) hL0
                          obtain ⟨kk, rfl⟩ := hW.wi.no n4
                          go_simp
                          exact hK _ (hW.wi.same (by decide))
                        · intro L A' u hW hL0 hnd K' hK
                          have r10 : A'.tmps[10]? = some (iv 10) := (hW.out 10 (fun j hj => noOutF j 10 hj (by kernel_rfl))).trans rfl
                          go_simp
                          exact hK _ (hW.wi.same (by decide))
                        · intro L A' u hW hL0 hnd K' hK
                          have r107 : A'.tmps[107]? = some ((.slice none 0 0)) := hW.val 0 107 (by decide) (hnd 0 (by kernel_rfl)) rfl
                          go_simp
                          exact hK _ (hW.wi.same (by decide))
                        · intro L A' u hW hL0 hnd K' hK
                          have r7 : A'.tmps[7]? = some (.pointer (some ⟨w.heap.size + 1, 0, none⟩)) := (hW.out 7 (fun j hj => noOutF j 7 hj (by kernel_rfl))).trans rfl
                          have r108 : A'.tmps[108]? = some (.agg (spC 2 o wd 0 0 (.slice none 0 0) m ro (.slice (some ⟨gp, 0, none⟩) Q Q) (.slice (some ⟨gb, 0, none⟩) Q Q))) := hW.val 1 108 (by decide) (hnd 1 (by kernel_rfl)) rfl
                          obtain ⟨kk, rfl⟩ := hW.wi.no hL0
                          refine step_store_row rfl 28 (.tmp 7) (.tmp 108) rfl rfl (w.heap.size + 1) 28 zC (spC 2 o wd 0 0 (.slice none 0 0) m ro (.slice (some ⟨gp, 0, none⟩) Q Q) (.slice (some ⟨gb, 0, none⟩) Q Q)) (by simp [Act.eval, r7]) (by simp [Act.eval, r108]) (HBq8.out.drewN kk) Tryz.size_plan rfl (spC_one _ _ _ _ _ _ _ _ _ _ _ _ _ _ _ _) ?_
                          intro u' hb' ho'
                          exact hK _ (CaW.made ⟨hb', ⟨ho'.os, ho'.tape, ho'.output, ho'.size, ho'.block⟩⟩)
                        · intro L A' u hW hL0 hnd K' hK
                          have r109 : A'.tmps[109]? = some (iv 10) := hW.val 2 109 (by decide) (hnd 2 (by kernel_rfl)) rfl
                          go_simp
                          exact hK _ (hW.wi.same (by decide))
                      case doneF =>
                        intro L u hWI hall
                        obtain ⟨hB4, ho4⟩ := hWI.yes (hall 4 (by decide))
                        clear hWI hall noOutF
                        have Z1 := Lib.hid (rd_just HR8.out HBq8.out (by decide) hnq ho4)
                        have Z2 := Lib.hid (only_just HO8.out ho4 (by omega))
                        have y0 := hB4.cell 0
                        have y1 := hB4.cell 1
                        have y2 := hB4.cell 2
                        have y3 := hB4.cell 3
                        have y4 := hB4.cell 4
                        have y5 := hB4.cell 5
                        have y6 := hB4.cell 6
                        have y7 := hB4.cell 7
                        have y8 := hB4.cell 8
                        have y9 := hB4.cell 9
                        simp only [List.getElem?_toArray, List.getElem?_cons_zero, List.getElem?_cons_succ] at y0 y1 y2 y3 y4 y5 y6 y7 y8 y9
                        clear hB4 ho4
                        simp only [putV, List.foldl_cons, List.foldl_nil, List.setIfInBounds_toArray, List.set_cons_zero, List.set_cons_succ]
                        go_wp2
                        refine bodyPost_ret (v := .tuple #[(.slice none 0 0), spV 2 o wd 0 0 (.slice none 0 0) m ro (.slice (some ⟨gp, 0, none⟩) Q Q) (.slice (some ⟨gb, 0, none⟩) Q Q), iv 10]) ?_ rfl ?_
                        · simp [results, Tryz.f44, go_sem, y0, y1, y2, y3, y4, y5, y6, y7, y8, y9]
                        refine .inl ⟨_, _, 10, _, rfl, rfl, (spC_one _ _ _ _ _ _ _ _ _ _ _ _ _ _ _ _), by decide, Z1.out, Z2.out, fun k' o' wd' lp' ls' cs' m' ro' ps' ws' xs' a' h => ?_⟩
                        obtain ⟨ys, h⟩ := HChn.out _ _ _ _ _ _ _ _ _ _ _ _ h
                        rcases h with ⟨h, _⟩ | ⟨h, _⟩ | ⟨_, _, _, _, m2, ro2, rs2, _, _, hP, _, _, hRk, _⟩ | ⟨h, _⟩
                        · omega
                        · omega
                        rotate_left
                        · omega
                        obtain ⟨rfl, rfl, rfl, rfl⟩ := Parse.det hP HPa.out
                        rw [Hds.out] at hRk
                        exact HRs.out hRk
            · have hkz : (k : Int) = 3 := by omega
              rw [hkz] at HBp5
              have p0 := HBp5.out.cell 0
              have p1 := HBp5.out.cell 1
              have p2 := HBp5.out.cell 2
              have p3 := HBp5.out.cell 3
              have p4 := HBp5.out.cell 4
              have p5 := HBp5.out.cell 5
              have p6 := HBp5.out.cell 6
              have p7 := HBp5.out.cell 7
              have p8 := HBp5.out.cell 8
              have p9 := HBp5.out.cell 9
              simp only [List.getElem?_toArray, List.getElem?_cons_zero, List.getElem?_cons_succ] at p0 p1 p2 p3 p4 p5 p6 p7 p8 p9
              have hgr : g ≠ r := by omega
              have hgp : g ≠ w1.heap.size := by omega
              have HLn := Lib.hid (linear_any HR5.out o HKs.out.1)
              have hr0 := HBr5.out.cell 0
              simp only [List.getElem?_toArray, List.getElem?_cons_zero] at hr0
              have hs5 := HBp5.out.lt
              go_wp2_with fail
              go_step3
              go_wp2_with fail
              refine (HLn.out).mono ?_
              rintro e w6 (⟨lx, ly, E, a5, rfl, hE, hR6, o6, hno⟩ | ⟨P, S, cs, aL, gc, rfl, hln, hbc, hgc, hR6, o6⟩)
              · have HBp6 := Lib.hid (HBp5.out.only o6 (fun e => hnp e))
                have HBq6 := Lib.hid (HBq5.out.only o6 (fun e => hnq e))
                have HBr6 := Lib.hid (HBr5.out.only o6 (fun e => hnr e))
                have HBl6 := Lib.hid (HBl5.out.only o6 (fun e => hgr e))
                have HR6 := Lib.hid hR6
                have HO6 := Lib.hid (HO5.out.trans o6)
                have HNo := Lib.hid hno
                have HE := Lib.hid hE
                have hE0 : (E != 0) = true := by rcases hE with rfl | rfl | rfl <;> rfl
                clear hR6 o6 hno hE hr0 HLn p0 p1 p2 p3 p4 p5 p6 p7 p8 p9
                go_wp2_with (refine wpList_store_part rfl 24 (.tmp 66) (.tmp 64) rfl rfl w1.heap.size 3 28 (spC 3 o wd 0 0 (.slice none 0 0) 0 0 (.slice none 0 0) (.slice none 0 0)) #[iv lx, iv ly, .slice none 0 0] (spC 3 o wd lx ly (.slice none 0 0) 0 0 (.slice none 0 0) (.slice none 0 0)) rfl rfl HBp6.out Tryz.size_lin (by simp) (by simp [Value.oneCell']) rfl ?st)
                case st =>
                  intro w7 hb7 o7
                  have HBp7 := Lib.hid hb7
                  have HBq7 := Lib.hid (HBq6.out.only o7 (fun e => hpq e))
                  have HBr7 := Lib.hid (HBr6.out.only o7 (fun e => hpr e))
                  have HBl7 := Lib.hid (HBl6.out.only o7 (fun e => hgp e))
                  have HR7 := Lib.hid (rd_just HR6.out HBp6.out (by decide) hnp o7)
                  have HO7 := Lib.hid (only_just HO6.out o7 (by omega))
                  clear hb7 o7
                  have hTb : Box w7 g 3 ((upTo (mul2 wd) fs 0).map iv).toArray := by rw [upTo_zero]; exact HBl7.out
                  have HTb := Lib.hid hTb
                  have htp : w1.heap.size ≠ g := by omega
                  have htq : w.heap.size + 1 ≠ g := by omega
                  have htr : g ≠ r := by omega
                  have hts : w.heap.size ≤ g := by omega
                  clear hTb
                  go_wp2
                  go_loopw [95] (fun s wr => TlP w7 g (mul2 wd) fs n s wr) (fun s _ => n - (intOf s).toNat)
                  case atStart => exact ⟨0, Nat.zero_le _, rfl, HTb.out, Only.refl _ _⟩
                  case round =>
                    obtain ⟨j, hj, rfl, hb, hO⟩ := hrel
                    have HBw := Lib.hid hb
                    have HOw := Lib.hid hO
                    have HPw := Lib.hid (HBp7.out.only hO (fun e => htp e))
                    clear hb hO
                    by_cases hlt : j < n
                    · have hlt2 : (j : Int) < (n : Int) := by omega
                      have hjy : j < (fs).length := by rw [HFl.out]; exact hlt
                      have q2 := HPw.out.cell 2
                      simp only [List.getElem?_toArray, List.getElem?_cons_zero, List.getElem?_cons_succ] at q2
                      have hc0 := HBw.out.cell j
                      rw [List.getElem?_toArray, List.getElem?_map, List.getElem?_eq_getElem (by rw [upTo_len]; exact hjy), upTo_at _ _ _ hjy, Option.map_some] at hc0
                      have hft := HFf.out _ (List.getElem_mem hjy)
                      have hmf := mul2_fits hdwd hft.1 hft.2
                      have HSt : Hid (∀ kk, Box ((wr.drewN kk).setCell ⟨g, j, none⟩ (iv (mul2 wd (fs)[j]))) g 3 ((upTo (mul2 wd) (fs) (j + 1)).map iv).toArray ∧ Only (Just g) w7 ((wr.drewN kk).setCell ⟨g, j, none⟩ (iv (mul2 wd (fs)[j])))) := Lib.hid (fun kk => by
                        have h := (HBw.out.drewN kk).put j (iv (mul2 wd (fs)[j]))
                        rw [set_ivs, upTo_set _ _ _ hjy] at h
                        exact ⟨h, (HOw.out.drewN kk).setCell (p := ⟨g, j, none⟩) (.inl rfl) _⟩)
                      have hfz := HBw.out.frozen j
                      generalize (fs)[j] = x at *
                      have hwy : IntKind.i64.wrap (x * 2 ^ wd) = mul2 wd x := K.w64k _ (by unfold mul2 at hmf; omega) (by unfold mul2 at hmf; omega)
                      generalize mul2 wd x = y at *
                      clear hmf hft hjy
                      go_wp2_with fail
                      have noOutT : ∀ j s, j < 9 → (([some 98, some 99, some 100, some 101, some 102, some 103, some 104, some 105, none] : List (Option Nat)).all fun d => d != some s) = true → ([some 98, some 99, some 100, some 101, some 102, some 103, some 104, some 105, none] : List (Option Nat)).getD j none ≠ some s := by
                        intro j s hj ha e
                        rw [List.getD_eq_getElem?_getD, List.getElem?_eq_getElem (by exact hj), Option.getD_some] at e
                        have := List.all_eq_true.1 ha _ (List.getElem_mem (by exact hj))
                        rw [e] at this
                        simp at this
                      refine region_val (by kernel_rfl) (fun k0 => ([some 98, some 99, some 100, some 101, some 102, some 103, some 104, some 105, none] : List (Option Nat)).getD k0 none) (fun k0 => ([(.slice (some ⟨g, 0, none⟩) n n), (iv j), (.pointer (some ⟨g, j, none⟩)), (iv x), (.pointer (some ⟨w1.heap.size, 2, none⟩)), (iv wd), (iv y), (.pointer (some ⟨g, j, none⟩)), (undef)] : List Value).getD k0 undef) (CaW 8 wr (fun u => Box u g 3 ((upTo (mul2 wd) (fs) (j + 1)).map iv).toArray ∧ Only (Just g) w7 u)) 110 9 rfl (by kernel_rfl) (by kernel_rfl) rfl (by kernel_rfl) (by kernel_rfl) ⟨fun _ => ⟨1, rfl⟩, fun e => by cases e⟩ ?stepsT [(98, .slice (some ⟨g, 0, none⟩) n n), (99, iv j), (100, .pointer (some ⟨g, j, none⟩)), (101, iv x), (102, .pointer (some ⟨w1.heap.size, 2, none⟩)), (103, iv wd), (104, iv y), (105, .pointer (some ⟨g, j, none⟩))] rfl ?doneT
                      case stepsT =>
                        refine ⟨?_, ?_, ?_, ?_, ?_, ?_, ?_, ?_, ?_, trivial⟩
                        · intro L A' u hW hL0 hnd K' hK
                          have r11 : A'.tmps[11]? = some (.slice (some ⟨g, 0, none⟩) n n) := (hW.out 11 (fun j hj => noOutT j 11 hj (by kernel_rfl))).trans rfl
                          go_simp
                          exact hK _ (hW.wi.same (by decide))
                        · intro L A' u hW hL0 hnd K' hK
                          have r13 : A'.tmps[13]? = some (iv j) := (hW.out 13 (fun j hj => noOutT j 13 hj (by kernel_rfl))).trans rfl
                          go_simp
                          exact hK _ (hW.wi.same (by decide))
                        · intro L A' u hW hL0 hnd K' hK
                          have r98 : A'.tmps[98]? = some (.slice (some ⟨g, 0, none⟩) n n) := hW.val 0 98 (by decide) (hnd 0 (by kernel_rfl)) rfl
                          have r99 : A'.tmps[99]? = some (iv j) := hW.val 1 99 (by decide) (hnd 1 (by kernel_rfl)) rfl
                          go_simp
                          exact hK _ (hW.wi.same (by decide))
                        · intro L A' u hW hL0 hnd K' hK
                          have r100 : A'.tmps[100]? = some (.pointer (some ⟨g, j, none⟩)) := hW.val 2 100 (by decide) (hnd 2 (by kernel_rfl)) rfl
                          have n6 : L 6 = false := notYet hW.closed (j := 6) (by rfl) (k := 3) (by kernel_rfl) hL0
                          have n8 : L 8 = false := notYet hW.closed (j := 8) (by rfl) (k := 6) (by kernel_rfl) n6
                          obtain ⟨kk, rfl⟩ := hW.wi.no n8
                          go_simp
                          exact hK _ (hW.wi.same (by decide))
                        · intro L A' u hW hL0 hnd K' hK
                          have r9 : A'.tmps[9]? = some (.pointer (some ⟨w1.heap.size, 0, none⟩)) := (hW.out 9 (fun j hj => noOutT j 9 hj (by kernel_rfl))).trans rfl
                          go_simp
                          exact hK _ (hW.wi.same (by decide))
                        · intro L A' u hW hL0 hnd K' hK
                          have r102 : A'.tmps[102]? = some (.pointer (some ⟨w1.heap.size, 2, none⟩)) := hW.val 4 102 (by decide) (hnd 4 (by kernel_rfl)) rfl
                          have n6 : L 6 = false := notYet hW.closed (j := 6) (by rfl) (k := 5) (by kernel_rfl) hL0
                          have n8 : L 8 = false := notYet hW.closed (j := 8) (by rfl) (k := 6) (by kernel_rfl) n6
                          obtain ⟨kk, rfl⟩ := hW.wi.no n8
                          go_simp
                          exact hK _ (hW.wi.same (by decide))
                        · intro L A' u hW hL0 hnd K' hK
                          have r101 : A'.tmps[101]? = some (iv x) := hW.val 3 101 (by decide) (hnd 3 (by kernel_rfl)) rfl
                          have r103 : A'.tmps[103]? = some (iv wd) := hW.val 5 103 (by decide) (hnd 5 (by kernel_rfl)) rfl
                          go_simp
                          first | rw [hwy] | skip
                          exact hK _ (hW.wi.same (by decide))
                        · intro L A' u hW hL0 hnd K' hK
                          have r98 : A'.tmps[98]? = some (.slice (some ⟨g, 0, none⟩) n n) := hW.val 0 98 (by decide) (hnd 0 (by kernel_rfl)) rfl
                          have r99 : A'.tmps[99]? = some (iv j) := hW.val 1 99 (by decide) (hnd 1 (by kernel_rfl)) rfl
                          go_simp
                          exact hK _ (hW.wi.same (by decide))
                        · intro L A' u hW hL0 hnd K' hK
                          have r105 : A'.tmps[105]? = some (.pointer (some ⟨g, j, none⟩)) := hW.val 7 105 (by decide) (hnd 7 (by kernel_rfl)) rfl
                          have r104 : A'.tmps[104]? = some (iv y) := hW.val 6 104 (by decide) (hnd 6 (by kernel_rfl)) rfl
                          obtain ⟨kk, rfl⟩ := hW.wi.no hL0
                          go_simp
                          exact hK _ (CaW.made (HSt.out kk))
                      case doneT =>
                        intro L u hWI hall
                        obtain ⟨hB4, ho4⟩ := hWI.yes (hall 8 (by decide))
                        clear hWI hall noOutT
                        have HB4 := Lib.hid hB4
                        have HO4' := Lib.hid ho4
                        clear hB4 ho4 HSt
                        simp only [putV, List.foldl_cons, List.foldl_nil, List.setIfInBounds_toArray, List.set_cons_zero, List.set_cons_succ]
                        go_wp2
                        go_roundw
                        case rel => exact ⟨j + 1, by omega, by go_num, HB4.out, HO4'.out⟩
                        case measure => simp [intOf]; omega
                    · have hjN : n = j := by omega
                      subst hjN
                      have HQw := Lib.hid (HBq7.out.only HOw.out (fun e => htq e))
                      have HRw := Lib.hid (rd_just HR7.out HBl7.out (by decide) htr HOw.out)
                      have HOx := Lib.hid (only_just HO7.out HOw.out hts)
                      have HBx : Hid (Box wr g 3 (((fs).map (mul2 wd)).map iv).toArray) := Lib.hid (by
                        have h := HBw.out
                        rwa [upTo_all _ _ _ (by rw [HFl.out]; exact Nat.le_refl _)] at h)
                      have htqn : w.heap.size + 1 < wr.heap.size := HQw.out.lt
                      clear HBw
                      have p0 := HPw.out.cell 0
                      have p1 := HPw.out.cell 1
                      have p2 := HPw.out.cell 2
                      have p3 := HPw.out.cell 3
                      have p4 := HPw.out.cell 4
                      have p5 := HPw.out.cell 5
                      have p6 := HPw.out.cell 6
                      have p7 := HPw.out.cell 7
                      have p8 := HPw.out.cell 8
                      have p9 := HPw.out.cell 9
                      simp only [List.getElem?_toArray, List.getElem?_cons_zero, List.getElem?_cons_succ] at p0 p1 p2 p3 p4 p5 p6 p7 p8 p9
                      go_wp2_with fail
                      have noOutF : ∀ j s, j < 6 → (([some 107, some 108, some 109, some 6, none, some 8] : List (Option Nat)).all fun d => d != some s) = true → ([some 107, some 108, some 109, some 6, none, some 8] : List (Option Nat)).getD j none ≠ some s := by
                        intro j s hj ha e
                        rw [List.getD_eq_getElem?_getD, List.getElem?_eq_getElem (by exact hj), Option.getD_some] at e
                        have := List.all_eq_true.1 ha _ (List.getElem_mem (by exact hj))
                        rw [e] at this
                        simp at this
                      refine region_val (by kernel_rfl) (fun k0 => ([some 107, some 108, some 109, some 6, none, some 8] : List (Option Nat)).getD k0 none) (fun k0 => ([(.slice (some ⟨g, 0, none⟩) n n), (.agg (spC 3 o wd lx ly (.slice none 0 0) 0 0 (.slice none 0 0) (.slice none 0 0))), (iv E), (.slice (some ⟨g, 0, none⟩) n n), (undef), (iv E)] : List Value).getD k0 undef) (CaW 4 wr (fun u => Box u (w.heap.size + 1) 28 (spC 3 o wd lx ly (.slice none 0 0) 0 0 (.slice none 0 0) (.slice none 0 0)) ∧ Only (Just (w.heap.size + 1)) wr u)) 110 6 rfl (by kernel_rfl) (by kernel_rfl) rfl (by kernel_rfl) (by kernel_rfl) ⟨fun _ => ⟨1, rfl⟩, fun e => by cases e⟩ ?stepsF [(107, .slice (some ⟨g, 0, none⟩) n n), (108, .agg (spC 3 o wd lx ly (.slice none 0 0) 0 0 (.slice none 0 0) (.slice none 0 0))), (109, iv E), (6, .slice (some ⟨g, 0, none⟩) n n), (8, iv E)] rfl ?doneF
                      case stepsF =>
                        refine ⟨?_, ?_, ?_, ?_, ?_, ?_, trivial⟩
                        · intro L A' u hW hL0 hnd K' hK
                          have r11 : A'.tmps[11]? = some (.slice (some ⟨g, 0, none⟩) n n) := (hW.out 11 (fun j hj => noOutF j 11 hj (by kernel_rfl))).trans rfl
                          go_simp
                          exact hK _ (hW.wi.same (by decide))
                        · intro L A' u hW hL0 hnd K' hK
                          have r9 : A'.tmps[9]? = some (.pointer (some ⟨w1.heap.size, 0, none⟩)) := (hW.out 9 (fun j hj => noOutF j 9 hj (by kernel_rfl))).trans rfl
                          have n4 : L 4 = false := notYet hW.closed (j := 4) (by rfl) (k := 1) (by kernel_rfl) hL0
                          obtain ⟨kk, rfl⟩ := hW.wi.no n4
                          go_simp
                          exact hK _ (hW.wi.same (by decide))
                        · intro L A' u hW hL0 hnd K' hK
                          have r10 : A'.tmps[10]? = some (iv E) := (hW.out 10 (fun j hj => noOutF j 10 hj (by kernel_rfl))).trans rfl
                          go_simp
                          exact hK _ (hW.wi.same (by decide))
                        · intro L A' u hW hL0 hnd K' hK
                          have r107 : A'.tmps[107]? = some (.slice (some ⟨g, 0, none⟩) n n) := hW.val 0 107 (by decide) (hnd 0 (by kernel_rfl)) rfl
                          go_simp
                          exact hK _ (hW.wi.same (by decide))
                        · intro L A' u hW hL0 hnd K' hK
                          have r7 : A'.tmps[7]? = some (.pointer (some ⟨w.heap.size + 1, 0, none⟩)) := (hW.out 7 (fun j hj => noOutF j 7 hj (by kernel_rfl))).trans rfl
                          have r108 : A'.tmps[108]? = some (.agg (spC 3 o wd lx ly (.slice none 0 0) 0 0 (.slice none 0 0) (.slice none 0 0))) := hW.val 1 108 (by decide) (hnd 1 (by kernel_rfl)) rfl
                          obtain ⟨kk, rfl⟩ := hW.wi.no hL0
                          refine step_store_row rfl 28 (.tmp 7) (.tmp 108) rfl rfl (w.heap.size + 1) 28 zC (spC 3 o wd lx ly (.slice none 0 0) 0 0 (.slice none 0 0) (.slice none 0 0)) (by simp [Act.eval, r7]) (by simp [Act.eval, r108]) (HQw.out.drewN kk) Tryz.size_plan rfl (spC_one _ _ _ _ _ _ _ _ _ _ _ _ _ _ _ _) ?_
                          intro u' hb' ho'
                          exact hK _ (CaW.made ⟨hb', ⟨ho'.os, ho'.tape, ho'.output, ho'.size, ho'.block⟩⟩)
                        · intro L A' u hW hL0 hnd K' hK
                          have r109 : A'.tmps[109]? = some (iv E) := hW.val 2 109 (by decide) (hnd 2 (by kernel_rfl)) rfl
                          go_simp
                          exact hK _ (hW.wi.same (by decide))
                      case doneF =>
                        intro L u hWI hall
                        obtain ⟨hB4, ho4⟩ := hWI.yes (hall 4 (by decide))
                        clear hWI hall noOutF
                        have Z1 := Lib.hid (rd_just HRw.out HQw.out (by decide) hnq ho4)
                        have Z2 := Lib.hid (only_just HOx.out ho4 (by omega))
                        have ZF := Lib.hid ho4
                        have ZL := Lib.hid (HBx.out.only ho4 (fun e => htq e.symm))
                        have y0 := hB4.cell 0
                        have y1 := hB4.cell 1
                        have y2 := hB4.cell 2
                        have y3 := hB4.cell 3
                        have y4 := hB4.cell 4
                        have y5 := hB4.cell 5
                        have y6 := hB4.cell 6
                        have y7 := hB4.cell 7
                        have y8 := hB4.cell 8
                        have y9 := hB4.cell 9
                        simp only [List.getElem?_toArray, List.getElem?_cons_zero, List.getElem?_cons_succ] at y0 y1 y2 y3 y4 y5 y6 y7 y8 y9
                        clear hB4 ho4
                        simp only [putV, List.foldl_cons, List.foldl_nil, List.setIfInBounds_toArray, List.set_cons_zero, List.set_cons_succ]
                        go_wp2
                        refine bodyPost_ret (v := .tuple #[.slice (some ⟨g, 0, none⟩) n n, spV 3 o wd lx ly (.slice none 0 0) 0 0 (.slice none 0 0) (.slice none 0 0), iv E]) ?_ rfl ?_
                        · simp [results, Tryz.f44, go_sem, y0, y1, y2, y3, y4, y5, y6, y7, y8, y9]
                        refine .inl ⟨_, _, E, _, rfl, rfl, (spC_one _ _ _ _ _ _ _ _ _ _ _ _ _ _ _ _), by rcases HE.out with h | h | h <;> omega, Z1.out, Z2.out, fun k' o' wd' lp' ls' cs' m' ro' ps' ws' xs' a' h => ?_⟩
                        obtain ⟨ys, h⟩ := HChn.out _ _ _ _ _ _ _ _ _ _ _ _ h
                        rcases h with ⟨h, _⟩ | ⟨h, _⟩ | ⟨h, _⟩ | ⟨_, P2, a3', h1, hln2, _⟩
                        · omega
                        · omega
                        · omega
                        exact HNo.out _ _ _ _ hln2
              · have HBp6 := Lib.hid (HBp5.out.only o6 (fun e => hnp e))
                have HBq6 := Lib.hid (HBq5.out.only o6 (fun e => hnq e))
                have HBr6 := Lib.hid (HBr5.out.only o6 (fun e => hnr e))
                have HBl6 := Lib.hid (HBl5.out.only o6 (fun e => hgr e))
                have HR6 := Lib.hid hR6
                have HO6 := Lib.hid (HO5.out.trans o6)
                have HLn2 := Lib.hid hln
                have hgcr : gc ≠ r := by omega
                have hgcn : gc ≠ w1.heap.size := box_ne hbc HBp6.out (by decide)
                have hgcq : gc ≠ w.heap.size + 1 := box_ne hbc HBq6.out (by decide)
                have hgcl := hbc.lt
                have hsc : ISrc w6 (.slice (some ⟨gc, 0, none⟩) o o) cs := by
                  obtain ⟨_, _, hP, _, _, _, _, hcs, _⟩ := hln
                  have h4 := numAt_lt bs a4 4
                  have hcl : cs.length = o := by rw [hcs]; exact smV_len _ _ _ _
                  refine ISrc.of_box (t := 3) hbc hcl (Nat.le_refl _) (by omega) (fun x hx => ?_)
                  rw [hcs] at hx
                  have h := smV_fits hx
                  have h2 := mul2_fits (wd := 0) (by omega : P + 0 ≤ 33) h.1 h.2
                  unfold mul2 at h2
                  omega
                have HSc6 := Lib.hid (ISb.mk' hsc hbc)
                clear hR6 o6 hr0 HLn p0 p1 p2 p3 p4 p5 p6 p7 p8 p9 hln hbc hsc
                go_wp2_with (refine wpList_store_part rfl 24 (.tmp 66) (.tmp 64) rfl rfl w1.heap.size 3 28 (spC 3 o wd 0 0 (.slice none 0 0) 0 0 (.slice none 0 0) (.slice none 0 0)) #[iv P, iv S, .slice (some ⟨gc, 0, none⟩) o o] (spC 3 o wd P S (.slice (some ⟨gc, 0, none⟩) o o) 0 0 (.slice none 0 0) (.slice none 0 0)) rfl rfl HBp6.out Tryz.size_lin (by simp) (by simp [Value.oneCell']) rfl ?st)
                case st =>
                  intro w7 hb7 o7
                  have HBp7 := Lib.hid hb7
                  have HBq7 := Lib.hid (HBq6.out.only o7 (fun e => hpq e))
                  have HBr7 := Lib.hid (HBr6.out.only o7 (fun e => hpr e))
                  have HBl7 := Lib.hid (HBl6.out.only o7 (fun e => hgp e))
                  have HR7 := Lib.hid (rd_just HR6.out HBp6.out (by decide) hnp o7)
                  have HO7 := Lib.hid (only_just HO6.out o7 (by omega))
                  have HSc7 := Lib.hid (isrc_just HSc6.out o7 hgcn)
                  have hsz7 := o7.size
                  clear hb7 o7
                  have HRr := Lib.hid (rread_any HR7.out b o (by unfold ckB; rw [if_neg (by omega)]))
                  have hr0 := HBr7.out.cell 0
                  simp only [List.getElem?_toArray, List.getElem?_cons_zero] at hr0
                  have p0 := HBp7.out.cell 0
                  have p1 := HBp7.out.cell 1
                  have p2 := HBp7.out.cell 2
                  have p3 := HBp7.out.cell 3
                  have p4 := HBp7.out.cell 4
                  have p5 := HBp7.out.cell 5
                  have p6 := HBp7.out.cell 6
                  have p7 := HBp7.out.cell 7
                  have p8 := HBp7.out.cell 8
                  have p9 := HBp7.out.cell 9
                  simp only [List.getElem?_toArray, List.getElem?_cons_zero, List.getElem?_cons_succ] at p0 p1 p2 p3 p4 p5 p6 p7 p8 p9
                  go_wp2_with fail
                  refine (HRr.out).mono ?_
                  rintro e w8 (⟨E, rfl, hE, hR8, o8, hno⟩ | ⟨m, ro, gp, gb, gd, Q, rs, a5, rfl, hp, sp, sb, sd, ⟨csp, kp⟩, ⟨csb, kb⟩, ⟨csd, kd⟩, hR8, o8⟩)
                  · have HBp8 := Lib.hid (HBp7.out.only o8 (fun e => hnp e))
                    have HBq8 := Lib.hid (HBq7.out.only o8 (fun e => hnq e))
                    have HBl8 := Lib.hid (HBl7.out.only o8 (fun e => hgr e))
                    have HR8 := Lib.hid hR8
                    have HO8 := Lib.hid (HO7.out.trans o8)
                    have HNo := Lib.hid hno
                    have HE := Lib.hid hE
                    have hE0 : (E != 0) = true := by rcases hE with rfl | rfl | rfl | rfl <;> rfl
                    clear hR8 o8 hno hE hr0 HRr p0 p1 p2 p3 p4 p5 p6 p7 p8 p9
                    go_wp2_with (refine wpList_store_part rfl 26 (.tmp 79) (.tmp 77) rfl rfl w1.heap.size 6 28 (spC 3 o wd P S (.slice (some ⟨gc, 0, none⟩) o o) 0 0 (.slice none 0 0) (.slice none 0 0)) #[iv 0, iv 0, .slice none 0 0, .slice none 0 0] (spC 3 o wd P S (.slice (some ⟨gc, 0, none⟩) o o) 0 0 (.slice none 0 0) (.slice none 0 0)) rfl rfl HBp8.out Tryz.size_rplan (by simp) (by simp [Value.oneCell']) rfl ?st)
                    case st =>
                      intro w9 hb9 o9
                      have HBp9 := Lib.hid hb9
                      have HBq9 := Lib.hid (HBq8.out.only o9 (fun e => hpq e))
                      have HBl9 := Lib.hid (HBl8.out.only o9 (fun e => hgp e))
                      have HR9 := Lib.hid (rd_just HR8.out HBp8.out (by decide) hnp o9)
                      have HO9 := Lib.hid (only_just HO8.out o9 (by omega))
                      clear hb9 o9
                      have hTb : Box w9 g 3 ((upTo (mul2 wd) fs 0).map iv).toArray := by rw [upTo_zero]; exact HBl9.out
                      have HTb := Lib.hid hTb
                      have htp : w1.heap.size ≠ g := by omega
                      have htq : w.heap.size + 1 ≠ g := by omega
                      have htr : g ≠ r := by omega
                      have hts : w.heap.size ≤ g := by omega
                      clear hTb
                      go_wp2
                      go_loopw [95] (fun s wr => TlP w9 g (mul2 wd) fs n s wr) (fun s _ => n - (intOf s).toNat)
                      case atStart => exact ⟨0, Nat.zero_le _, rfl, HTb.out, Only.refl _ _⟩
                      case round =>
                        obtain ⟨j, hj, rfl, hb, hO⟩ := hrel
                        have HBw := Lib.hid hb
                        have HOw := Lib.hid hO
                        have HPw := Lib.hid (HBp9.out.only hO (fun e => htp e))
                        clear hb hO
                        by_cases hlt : j < n
                        · have hlt2 : (j : Int) < (n : Int) := by omega
                          have hjy : j < (fs).length := by rw [HFl.out]; exact hlt
                          have q2 := HPw.out.cell 2
                          simp only [List.getElem?_toArray, List.getElem?_cons_zero, List.getElem?_cons_succ] at q2
                          have hc0 := HBw.out.cell j
                          rw [List.getElem?_toArray, List.getElem?_map, List.getElem?_eq_getElem (by rw [upTo_len]; exact hjy), upTo_at _ _ _ hjy, Option.map_some] at hc0
                          have hft := HFf.out _ (List.getElem_mem hjy)
                          have hmf := mul2_fits hdwd hft.1 hft.2
                          have HSt : Hid (∀ kk, Box ((wr.drewN kk).setCell ⟨g, j, none⟩ (iv (mul2 wd (fs)[j]))) g 3 ((upTo (mul2 wd) (fs) (j + 1)).map iv).toArray ∧ Only (Just g) w9 ((wr.drewN kk).setCell ⟨g, j, none⟩ (iv (mul2 wd (fs)[j])))) := Lib.hid (fun kk => by
                            have h := (HBw.out.drewN kk).put j (iv (mul2 wd (fs)[j]))
                            rw [set_ivs, upTo_set _ _ _ hjy] at h
                            exact ⟨h, (HOw.out.drewN kk).setCell (p := ⟨g, j, none⟩) (.inl rfl) _⟩)
                          have hfz := HBw.out.frozen j
                          generalize (fs)[j] = x at *
                          have hwy : IntKind.i64.wrap (x * 2 ^ wd) = mul2 wd x := K.w64k _ (by unfold mul2 at hmf; omega) (by unfold mul2 at hmf; omega)
                          generalize mul2 wd x = y at *
                          clear hmf hft hjy
                          go_wp2_with fail
                          have noOutT : ∀ j s, j < 9 → (([some 98, some 99, some 100, some 101, some 102, some 103, some 104, some 105, none] : List (Option Nat)).all fun d => d != some s) = true → ([some 98, some 99, some 100, some 101, some 102, some 103, some 104, some 105, none] : List (Option Nat)).getD j none ≠ some s := by
                            intro j s hj ha e
                            rw [List.getD_eq_getElem?_getD, List.getElem?_eq_getElem (by exact hj), Option.getD_some] at e
                            have := List.all_eq_true.1 ha _ (List.getElem_mem (by exact hj))
                            rw [e] at this
                            simp at this
                          refine region_val (by kernel_rfl) (fun k0 => ([some 98, some 99, some 100, some 101, some 102, some 103, some 104, some 105, none] : List (Option Nat)).getD k0 none) (fun k0 => ([(.slice (some ⟨g, 0, none⟩) n n), (iv j), (.pointer (some ⟨g, j, none⟩)), (iv x), (.pointer (some ⟨w1.heap.size, 2, none⟩)), (iv wd), (iv y), (.pointer (some ⟨g, j, none⟩)), (undef)] : List Value).getD k0 undef) (CaW 8 wr (fun u => Box u g 3 ((upTo (mul2 wd) (fs) (j + 1)).map iv).toArray ∧ Only (Just g) w9 u)) 110 9 rfl (by kernel_rfl) (by kernel_rfl) rfl (by kernel_rfl) (by kernel_rfl) ⟨fun _ => ⟨1, rfl⟩, fun e => by cases e⟩ ?stepsT [(98, .slice (some ⟨g, 0, none⟩) n n), (99, iv j), (100, .pointer (some ⟨g, j, none⟩)), (101, iv x), (102, .pointer (some ⟨w1.heap.size, 2, none⟩)), (103, iv wd), (104, iv y), (105, .pointer (some ⟨g, j, none⟩))] rfl ?doneT
                          case stepsT =>
                            refine ⟨?_, ?_, ?_, ?_, ?_, ?_, ?_, ?_, ?_, trivial⟩
                            · intro L A' u hW hL0 hnd K' hK
                              have r11 : A'.tmps[11]? = some (.slice (some ⟨g, 0, none⟩) n n) := (hW.out 11 (fun j hj => noOutT j 11 hj (by kernel_rfl))).trans rfl
                              go_simp
                              exact hK _ (hW.wi.same (by decide))
                            · intro L A' u hW hL0 hnd K' hK
                              have r13 : A'.tmps[13]? = some (iv j) := (hW.out 13 (fun j hj => noOutT j 13 hj (by kernel_rfl))).trans rfl
                              go_simp
                              exact hK _ (hW.wi.same (by decide))
                            · intro L A' u hW hL0 hnd K' hK
                              have r98 : A'.tmps[98]? = some (.slice (some ⟨g, 0, none⟩) n n) := hW.val 0 98 (by decide) (hnd 0 (by kernel_rfl)) rfl
                              have r99 : A'.tmps[99]? = some (iv j) := hW.val 1 99 (by decide) (hnd 1 (by kernel_rfl)) rfl
                              go_simp
                              exact hK _ (hW.wi.same (by decide))
                            · intro L A' u hW hL0 hnd K' hK
                              have r100 : A'.tmps[100]? = some (.pointer (some ⟨g, j, none⟩)) := hW.val 2 100 (by decide) (hnd 2 (by kernel_rfl)) rfl
                              have n6 : L 6 = false := notYet hW.closed (j := 6) (by rfl) (k := 3) (by kernel_rfl) hL0
                              have n8 : L 8 = false := notYet hW.closed (j := 8) (by rfl) (k := 6) (by kernel_rfl) n6
                              obtain ⟨kk, rfl⟩ := hW.wi.no n8
                              go_simp
                              exact hK _ (hW.wi.same (by decide))
                            · intro L A' u hW hL0 hnd K' hK
                              have r9 : A'.tmps[9]? = some (.pointer (some ⟨w1.heap.size, 0, none⟩)) := (hW.out 9 (fun j hj => noOutT j 9 hj (by kernel_rfl))).trans rfl
                              go_simp
                              exact hK _ (hW.wi.same (by decide))
                            · intro L A' u hW hL0 hnd K' hK
                              have r102 : A'.tmps[102]? = some (.pointer (some ⟨w1.heap.size, 2, none⟩)) := hW.val 4 102 (by decide) (hnd 4 (by kernel_rfl)) rfl
                              have n6 : L 6 = false := notYet hW.closed (j := 6) (by rfl) (k := 5) (by kernel_rfl) hL0
                              have n8 : L 8 = false := notYet hW.closed (j := 8) (by rfl) (k := 6) (by kernel_rfl) n6
                              obtain ⟨kk, rfl⟩ := hW.wi.no n8
                              go_simp
                              exact hK _ (hW.wi.same (by decide))
                            · intro L A' u hW hL0 hnd K' hK
                              have r101 : A'.tmps[101]? = some (iv x) := hW.val 3 101 (by decide) (hnd 3 (by kernel_rfl)) rfl
                              have r103 : A'.tmps[103]? = some (iv wd) := hW.val 5 103 (by decide) (hnd 5 (by kernel_rfl)) rfl
                              go_simp
                              first | rw [hwy] | skip
                              exact hK _ (hW.wi.same (by decide))
                            · intro L A' u hW hL0 hnd K' hK
                              have r98 : A'.tmps[98]? = some (.slice (some ⟨g, 0, none⟩) n n) := hW.val 0 98 (by decide) (hnd 0 (by kernel_rfl)) rfl
                              have r99 : A'.tmps[99]? = some (iv j) := hW.val 1 99 (by decide) (hnd 1 (by kernel_rfl)) rfl
                              go_simp
                              exact hK _ (hW.wi.same (by decide))
                            · intro L A' u hW hL0 hnd K' hK
                              have r105 : A'.tmps[105]? = some (.pointer (some ⟨g, j, none⟩)) := hW.val 7 105 (by decide) (hnd 7 (by kernel_rfl)) rfl
                              have r104 : A'.tmps[104]? = some (iv y) := hW.val 6 104 (by decide) (hnd 6 (by kernel_rfl)) rfl
                              obtain ⟨kk, rfl⟩ := hW.wi.no hL0
                              go_simp
                              exact hK _ (CaW.made (HSt.out kk))
                          case doneT =>
                            intro L u hWI hall
                            obtain ⟨hB4, ho4⟩ := hWI.yes (hall 8 (by decide))
                            clear hWI hall noOutT
                            have HB4 := Lib.hid hB4
                            have HO4' := Lib.hid ho4
                            clear hB4 ho4 HSt
                            simp only [putV, List.foldl_cons, List.foldl_nil, List.setIfInBounds_toArray, List.set_cons_zero, List.set_cons_succ]
                            go_wp2
                            go_roundw
                            case rel => exact ⟨j + 1, by omega, by go_num, HB4.out, HO4'.out⟩
                            case measure => simp [intOf]; omega
                        · have hjN : n = j := by omega
                          subst hjN
                          have HQw := Lib.hid (HBq9.out.only HOw.out (fun e => htq e))
                          have HRw := Lib.hid (rd_just HR9.out HBl9.out (by decide) htr HOw.out)
                          have HOx := Lib.hid (only_just HO9.out HOw.out hts)
                          have HBx : Hid (Box wr g 3 (((fs).map (mul2 wd)).map iv).toArray) := Lib.hid (by
                            have h := HBw.out
                            rwa [upTo_all _ _ _ (by rw [HFl.out]; exact Nat.le_refl _)] at h)
                          have htqn : w.heap.size + 1 < wr.heap.size := HQw.out.lt
                          clear HBw
                          have p0 := HPw.out.cell 0
                          have p1 := HPw.out.cell 1
                          have p2 := HPw.out.cell 2
                          have p3 := HPw.out.cell 3
                          have p4 := HPw.out.cell 4
                          have p5 := HPw.out.cell 5
                          have p6 := HPw.out.cell 6
                          have p7 := HPw.out.cell 7
                          have p8 := HPw.out.cell 8
                          have p9 := HPw.out.cell 9
                          simp only [List.getElem?_toArray, List.getElem?_cons_zero, List.getElem?_cons_succ] at p0 p1 p2 p3 p4 p5 p6 p7 p8 p9
                          go_wp2_with fail
                          have noOutF : ∀ j s, j < 6 → (([some 107, some 108, some 109, some 6, none, some 8] : List (Option Nat)).all fun d => d != some s) = true → ([some 107, some 108, some 109, some 6, none, some 8] : List (Option Nat)).getD j none ≠ some s := by
                            intro j s hj ha e
                            rw [List.getD_eq_getElem?_getD, List.getElem?_eq_getElem (by exact hj), Option.getD_some] at e
                            have := List.all_eq_true.1 ha _ (List.getElem_mem (by exact hj))
                            rw [e] at this
                            simp at this
                          refine region_val (by kernel_rfl) (fun k0 => ([some 107, some 108, some 109, some 6, none, some 8] : List (Option Nat)).getD k0 none) (fun k0 => ([(.slice (some ⟨g, 0, none⟩) n n), (.agg (spC 3 o wd P S (.slice (some ⟨gc, 0, none⟩) o o) 0 0 (.slice none 0 0) (.slice none 0 0))), (iv E), (.slice (some ⟨g, 0, none⟩) n n), (undef), (iv E)] : List Value).getD k0 undef) (CaW 4 wr (fun u => Box u (w.heap.size + 1) 28 (spC 3 o wd P S (.slice (some ⟨gc, 0, none⟩) o o) 0 0 (.slice none 0 0) (.slice none 0 0)) ∧ Only (Just (w.heap.size + 1)) wr u)) 110 6 rfl (by kernel_rfl) (by kernel_rfl) rfl (by kernel_rfl) (by kernel_rfl) ⟨fun _ => ⟨1, rfl⟩, fun e => by cases e⟩ ?stepsF [(107, .slice (some ⟨g, 0, none⟩) n n), (108, .agg (spC 3 o wd P S (.slice (some ⟨gc, 0, none⟩) o o) 0 0 (.slice none 0 0) (.slice none 0 0))), (109, iv E), (6, .slice (some ⟨g, 0, none⟩) n n), (8, iv E)] rfl ?doneF
                          case stepsF =>
                            refine ⟨?_, ?_, ?_, ?_, ?_, ?_, trivial⟩
                            · intro L A' u hW hL0 hnd K' hK
                              have r11 : A'.tmps[11]? = some (.slice (some ⟨g, 0, none⟩) n n) := (hW.out 11 (fun j hj => noOutF j 11 hj (by kernel_rfl))).trans rfl
                              go_simp
                              exact hK _ (hW.wi.same (by decide))
                            · intro L A' u hW hL0 hnd K' hK
                              have r9 : A'.tmps[9]? = some (.pointer (some ⟨w1.heap.size, 0, none⟩)) := (hW.out 9 (fun j hj => noOutF j 9 hj (by kernel_rfl))).trans rfl
                              have n4 : L 4 = false := notYet hW.closed (j := 4) (by rfl) (k := 1) (by kernel_rfl) hL0
                              obtain ⟨kk, rfl⟩ := hW.wi.no n4
                              go_simp
                              exact hK _ (hW.wi.same (by decide))
                            · intro L A' u hW hL0 hnd K' hK
                              have r10 : A'.tmps[10]? = some (iv E) := (hW.out 10 (fun j hj => noOutF j 10 hj (by kernel_rfl))).trans rfl
                              go_simp
                              exact hK _ (hW.wi.same (by decide))
                            · intro L A' u hW hL0 hnd K' hK
                              have r107 : A'.tmps[107]? = some (.slice (some ⟨g, 0, none⟩) n n) := hW.val 0 107 (by decide) (hnd 0 (by kernel_rfl)) rfl
                              go_simp
                              exact hK _ (hW.wi.same (by decide))
                            · intro L A' u hW hL0 hnd K' hK
                              have r7 : A'.tmps[7]? = some (.pointer (some ⟨w.heap.size + 1, 0, none⟩)) := (hW.out 7 (fun j hj => noOutF j 7 hj (by kernel_rfl))).trans rfl
                              have r108 : A'.tmps[108]? = some (.agg (spC 3 o wd P S (.slice (some ⟨gc, 0, none⟩) o o) 0 0 (.slice none 0 0) (.slice none 0 0))) := hW.val 1 108 (by decide) (hnd 1 (by kernel_rfl)) rfl
                              obtain ⟨kk, rfl⟩ := hW.wi.no hL0
                              refine step_store_row rfl 28 (.tmp 7) (.tmp 108) rfl rfl (w.heap.size + 1) 28 zC (spC 3 o wd P S (.slice (some ⟨gc, 0, none⟩) o o) 0 0 (.slice none 0 0) (.slice none 0 0)) (by simp [Act.eval, r7]) (by simp [Act.eval, r108]) (HQw.out.drewN kk) Tryz.size_plan rfl (spC_one _ _ _ _ _ _ _ _ _ _ _ _ _ _ _ _) ?_
                              intro u' hb' ho'
                              exact hK _ (CaW.made ⟨hb', ⟨ho'.os, ho'.tape, ho'.output, ho'.size, ho'.block⟩⟩)
                            · intro L A' u hW hL0 hnd K' hK
                              have r109 : A'.tmps[109]? = some (iv E) := hW.val 2 109 (by decide) (hnd 2 (by kernel_rfl)) rfl
                              go_simp
                              exact hK _ (hW.wi.same (by decide))
                          case doneF =>
                            intro L u hWI hall
                            obtain ⟨hB4, ho4⟩ := hWI.yes (hall 4 (by decide))
                            clear hWI hall noOutF
                            have Z1 := Lib.hid (rd_just HRw.out HQw.out (by decide) hnq ho4)
                            have Z2 := Lib.hid (only_just HOx.out ho4 (by omega))
                            have ZF := Lib.hid ho4
                            have ZL := Lib.hid (HBx.out.only ho4 (fun e => htq e.symm))
                            have y0 := hB4.cell 0
                            have y1 := hB4.cell 1
                            have y2 := hB4.cell 2
                            have y3 := hB4.cell 3
                            have y4 := hB4.cell 4
                            have y5 := hB4.cell 5
                            have y6 := hB4.cell 6
                            have y7 := hB4.cell 7
                            have y8 := hB4.cell 8
                            have y9 := hB4.cell 9
                            simp only [List.getElem?_toArray, List.getElem?_cons_zero, List.getElem?_cons_succ] at y0 y1 y2 y3 y4 y5 y6 y7 y8 y9
                            clear hB4 ho4
                            simp only [putV, List.foldl_cons, List.foldl_nil, List.setIfInBounds_toArray, List.set_cons_zero, List.set_cons_succ]
                            go_wp2
                            refine bodyPost_ret (v := .tuple #[.slice (some ⟨g, 0, none⟩) n n, spV 3 o wd P S (.slice (some ⟨gc, 0, none⟩) o o) 0 0 (.slice none 0 0) (.slice none 0 0), iv E]) ?_ rfl ?_
                            · simp [results, Tryz.f44, go_sem, y0, y1, y2, y3, y4, y5, y6, y7, y8, y9]
                            refine .inl ⟨_, _, E, _, rfl, rfl, (spC_one _ _ _ _ _ _ _ _ _ _ _ _ _ _ _ _), by rcases HE.out with h | h | h | h <;> omega, Z1.out, Z2.out, fun k' o' wd' lp' ls' cs' m' ro' ps' ws' xs' a' h => ?_⟩
                            obtain ⟨ys, h⟩ := HChn.out _ _ _ _ _ _ _ _ _ _ _ _ h
                            rcases h with ⟨h, _⟩ | ⟨h, _⟩ | ⟨h, _⟩ | ⟨_, P2, a3', h1, hln2, m2, ro2, rs2, _, _, hP, _, _, hRk, _⟩
                            · omega
                            · omega
                            · omega
                            obtain ⟨rfl, rfl, rfl, rfl⟩ := hln2.det HLn2.out
                            subst h1
                            exact HNo.out _ _ _ _ hP
                  · have HBp8 := Lib.hid (HBp7.out.only o8 (fun e => hnp e))
                    have HBq8 := Lib.hid (HBq7.out.only o8 (fun e => hnq e))
                    have HBl8 := Lib.hid (HBl7.out.only o8 (fun e => hgr e))
                    have HR8 := Lib.hid hR8
                    have HO8 := Lib.hid (HO7.out.trans o8)
                    have HSc8 := Lib.hid (isrc_just HSc7.out o8 hgcr)
                    have hsz8 := o8.size
                    have hgpn : gp ≠ w1.heap.size := box_ne kp HBp8.out (by decide)
                    have hgbn : gb ≠ w1.heap.size := box_ne kb HBp8.out (by decide)
                    have hgdn : gd ≠ w1.heap.size := box_ne kd HBp8.out (by decide)
                    have hgpq : gp ≠ w.heap.size + 1 := box_ne kp HBq8.out (by decide)
                    have hgbq : gb ≠ w.heap.size + 1 := box_ne kb HBq8.out (by decide)
                    have hgpl := kp.lt
                    have hgbl := kb.lt
                    have HSp := Lib.hid (ISb.mk' sp kp)
                    have HSb := Lib.hid (ISb.mk' sb kb)
                    have HSd := Lib.hid (ISb.mk' sd kd)
                    have HPa := Lib.hid hp
                    clear hR8 o8 hp sp sb sd kp kb kd hr0 HRr p0 p1 p2 p3 p4 p5 p6 p7 p8 p9
                    go_wp2_with (refine wpList_store_part rfl 26 (.tmp 79) (.tmp 77) rfl rfl w1.heap.size 6 28 (spC 3 o wd P S (.slice (some ⟨gc, 0, none⟩) o o) 0 0 (.slice none 0 0) (.slice none 0 0)) #[iv m, iv ro, .slice (some ⟨gp, 0, none⟩) Q Q, .slice (some ⟨gb, 0, none⟩) Q Q] (spC 3 o wd P S (.slice (some ⟨gc, 0, none⟩) o o) m ro (.slice (some ⟨gp, 0, none⟩) Q Q) (.slice (some ⟨gb, 0, none⟩) Q Q)) rfl rfl HBp8.out Tryz.size_rplan (by simp) (by simp [Value.oneCell']) rfl ?st)
                    case st =>
                      intro w9 hb9 o9
                      have HBp9 := Lib.hid hb9
                      have HBq9 := Lib.hid (HBq8.out.only o9 (fun e => hpq e))
                      have HBl9 := Lib.hid (HBl8.out.only o9 (fun e => hgp e))
                      have HR9 := Lib.hid (rd_just HR8.out HBp8.out (by decide) hnp o9)
                      have HO9 := Lib.hid (only_just HO8.out o9 (by omega))
                      have HSc9 := Lib.hid (isrc_just HSc8.out o9 hgcn)
                      have hsz9 := o9.size
                      have hs9 := o9.size
                      have HSp9 := Lib.hid (isrc_just HSp.out o9 hgpn)
                      have HSb9 := Lib.hid (isrc_just HSb.out o9 hgbn)
                      have HSd9 := Lib.hid (isrc_just HSd.out o9 hgdn)
                      obtain ⟨ds, hds⟩ : ∃ ds, (rs.map (·.2.2)).flatten = ds := ⟨_, rfl⟩
                      rw [hds] at HSd9
                      have Hds := Lib.hid hds
                      have hbo : b - o ≤ 1000 := by omega
                      have HFs9 : Hid (ISrc w9 (.slice (some ⟨g, 0, none⟩) n n) fs) := Lib.hid (ISrc.of_box (t := 3) HBl9.out HFl.out (Nat.le_refl _) (by rw [HFl.out]; omega) (fun x hx => by
                        have h := HFf.out x hx
                        have h2 := mul2_fits (wd := 0) (by omega : dp + 0 ≤ 33) h.1 h.2
                        unfold mul2 at h2
                        omega))
                      have HRs := Lib.hid (restored_any (w := w9) 3 o wd P S (some ⟨gc, 0, none⟩) o o m ro (some ⟨gp, 0, none⟩) (some ⟨gb, 0, none⟩) Q Q Q Q (P : Int) S cs dp (by omega) (by omega) (some ⟨g, 0, none⟩) n n fs (some ⟨gd, 0, none⟩) (b - o) (b - o) ds (fun u hu => prediction_3 o wd P S (some ⟨gc, 0, none⟩) o o m ro (some ⟨gp, 0, none⟩) (some ⟨gb, 0, none⟩) Q Q Q Q cs (HSc9.out.nix hu).src) HFs9.out HSd9.out.src hbo (by rw [HFl.out]; exact (by have h := Hn.out; simp [plM, hkz] at h; omega : n = o).trans HSc9.out.src.len))
                      clear hb9 o9 hds HSp HSb HSd
                      have p0 := HBp9.out.cell 0
                      have p1 := HBp9.out.cell 1
                      have p2 := HBp9.out.cell 2
                      have p3 := HBp9.out.cell 3
                      have p4 := HBp9.out.cell 4
                      have p5 := HBp9.out.cell 5
                      have p6 := HBp9.out.cell 6
                      have p7 := HBp9.out.cell 7
                      have p8 := HBp9.out.cell 8
                      have p9 := HBp9.out.cell 9
                      simp only [List.getElem?_toArray, List.getElem?_cons_zero, List.getElem?_cons_succ] at p0 p1 p2 p3 p4 p5 p6 p7 p8 p9
                      go_wp2_with fail
                      refine (HRs.out).mono ?_
                      intro e w10 hrd
                      have HBp10 := Lib.hid (HBp9.out.only hrd.only (fun e => e))
                      have HBq10 := Lib.hid (HBq9.out.only hrd.only (fun e => e))
                      have HR10 := Lib.hid (HR9.out.nix hrd.only)
                      have HO10 := Lib.hid (HO9.out.trans hrd.only.nix)
                      have HSp10 := Lib.hid (HSp9.out.nix hrd.only)
                      have HSb10 := Lib.hid (HSb9.out.nix hrd.only)
                      have HSc10 := Lib.hid (HSc9.out.nix hrd.only)
                      have hs10 := hrd.only.size
                      have hp10 : w1.heap.size < w9.heap.size := HBp9.out.lt
                      have HRd := Lib.hid hrd
                      clear hrd HRs p0 p1 p2 p3 p4 p5 p6 p7 p8 p9
                      by_cases hRs : RsOk (P : Int) S cs dp fs ds
                      · obtain ⟨g9, he, hb9, hg9⟩ := HRd.out.good hRs
                        subst he
                        have HRs := Lib.hid hRs
                        have HN2 : Hid ((rstV (P : Int) S cs fs ds).length ≤ 2000) := Lib.hid (by
                          unfold rstV
                          rw [if_pos hRs.1, K.curK_len, HFl.out, ← HSd9.out.src.len]
                          omega)
                        have hft : ∀ x ∈ rstV (P : Int) S cs fs ds, -(2 ^ dp : Int) ≤ x ∧ x ≤ (2 ^ dp : Int) := fun x hx => by
                          have h := hRs.2 x hx
                          exact pow_pred_le h.1 h.2
                        obtain ⟨ys, hys⟩ : ∃ ys, rstV (P : Int) S cs fs ds = ys := ⟨_, rfl⟩
                        rw [hys] at hb9 HN2 hft ⊢
                        obtain ⟨N, hN⟩ : ∃ N, ys.length = N := ⟨_, rfl⟩
                        rw [hN] at HN2 ⊢
                        have hN2 := HN2.out
                        have HYf := Lib.hid hft
                        have HYl := Lib.hid hN
                        have Hys := Lib.hid hys
                        have HBl10 := Lib.hid hb9
                        have hg9p : gp ≠ g9 := by omega
                        have hg9b : gb ≠ g9 := by omega
                        have hg91 : w1.heap.size < g9 := by omega
                        clear hRs HRd hft hN hys hb9
                        have hTb : Box w10 g9 3 ((upTo (mul2 wd) ys 0).map iv).toArray := by rw [upTo_zero]; exact HBl10.out
                        have HTb := Lib.hid hTb
                        have htp : w1.heap.size ≠ g9 := by omega
                        have htq : w.heap.size + 1 ≠ g9 := by omega
                        have htr : g9 ≠ r := by omega
                        have hts : w.heap.size ≤ g9 := by omega
                        clear hTb
                        go_wp2
                        go_loopw [95] (fun s wr => TlP w10 g9 (mul2 wd) ys N s wr) (fun s _ => N - (intOf s).toNat)
                        case atStart => exact ⟨0, Nat.zero_le _, rfl, HTb.out, Only.refl _ _⟩
                        case round =>
                          obtain ⟨j, hj, rfl, hb, hO⟩ := hrel
                          have HBw := Lib.hid hb
                          have HOw := Lib.hid hO
                          have HPw := Lib.hid (HBp10.out.only hO (fun e => htp e))
                          clear hb hO
                          by_cases hlt : j < N
                          · have hlt2 : (j : Int) < (N : Int) := by omega
                            have hjy : j < (ys).length := by rw [HYl.out]; exact hlt
                            have q2 := HPw.out.cell 2
                            simp only [List.getElem?_toArray, List.getElem?_cons_zero, List.getElem?_cons_succ] at q2
                            have hc0 := HBw.out.cell j
                            rw [List.getElem?_toArray, List.getElem?_map, List.getElem?_eq_getElem (by rw [upTo_len]; exact hjy), upTo_at _ _ _ hjy, Option.map_some] at hc0
                            have hft := HYf.out _ (List.getElem_mem hjy)
                            have hmf := mul2_fits hdwd hft.1 hft.2
                            have HSt : Hid (∀ kk, Box ((wr.drewN kk).setCell ⟨g9, j, none⟩ (iv (mul2 wd (ys)[j]))) g9 3 ((upTo (mul2 wd) (ys) (j + 1)).map iv).toArray ∧ Only (Just g9) w10 ((wr.drewN kk).setCell ⟨g9, j, none⟩ (iv (mul2 wd (ys)[j])))) := Lib.hid (fun kk => by
                              have h := (HBw.out.drewN kk).put j (iv (mul2 wd (ys)[j]))
                              rw [set_ivs, upTo_set _ _ _ hjy] at h
                              exact ⟨h, (HOw.out.drewN kk).setCell (p := ⟨g9, j, none⟩) (.inl rfl) _⟩)
                            have hfz := HBw.out.frozen j
                            generalize (ys)[j] = x at *
                            have hwy : IntKind.i64.wrap (x * 2 ^ wd) = mul2 wd x := K.w64k _ (by unfold mul2 at hmf; omega) (by unfold mul2 at hmf; omega)
                            generalize mul2 wd x = y at *
                            clear hmf hft hjy
                            go_wp2_with fail
                            have noOutT : ∀ j s, j < 9 → (([some 98, some 99, some 100, some 101, some 102, some 103, some 104, some 105, none] : List (Option Nat)).all fun d => d != some s) = true → ([some 98, some 99, some 100, some 101, some 102, some 103, some 104, some 105, none] : List (Option Nat)).getD j none ≠ some s := by
                              intro j s hj ha e
                              rw [List.getD_eq_getElem?_getD, List.getElem?_eq_getElem (by exact hj), Option.getD_some] at e
                              have := List.all_eq_true.1 ha _ (List.getElem_mem (by exact hj))
                              rw [e] at this
                              simp at this
                            refine region_val (by kernel_rfl) (fun k0 => ([some 98, some 99, some 100, some 101, some 102, some 103, some 104, some 105, none] : List (Option Nat)).getD k0 none) (fun k0 => ([(.slice (some ⟨g9, 0, none⟩) N N), (iv j), (.pointer (some ⟨g9, j, none⟩)), (iv x), (.pointer (some ⟨w1.heap.size, 2, none⟩)), (iv wd), (iv y), (.pointer (some ⟨g9, j, none⟩)), (undef)] : List Value).getD k0 undef) (CaW 8 wr (fun u => Box u g9 3 ((upTo (mul2 wd) (ys) (j + 1)).map iv).toArray ∧ Only (Just g9) w10 u)) 110 9 rfl (by kernel_rfl) (by kernel_rfl) rfl (by kernel_rfl) (by kernel_rfl) ⟨fun _ => ⟨1, rfl⟩, fun e => by cases e⟩ ?stepsT [(98, .slice (some ⟨g9, 0, none⟩) N N), (99, iv j), (100, .pointer (some ⟨g9, j, none⟩)), (101, iv x), (102, .pointer (some ⟨w1.heap.size, 2, none⟩)), (103, iv wd), (104, iv y), (105, .pointer (some ⟨g9, j, none⟩))] rfl ?doneT
                            case stepsT =>
                              refine ⟨?_, ?_, ?_, ?_, ?_, ?_, ?_, ?_, ?_, trivial⟩
                              · intro L A' u hW hL0 hnd K' hK
                                have r11 : A'.tmps[11]? = some (.slice (some ⟨g9, 0, none⟩) N N) := (hW.out 11 (fun j hj => noOutT j 11 hj (by kernel_rfl))).trans rfl
                                go_simp
                                exact hK _ (hW.wi.same (by decide))
                              · intro L A' u hW hL0 hnd K' hK
                                have r13 : A'.tmps[13]? = some (iv j) := (hW.out 13 (fun j hj => noOutT j 13 hj (by kernel_rfl))).trans rfl
                                go_simp
                                exact hK _ (hW.wi.same (by decide))
                              · intro L A' u hW hL0 hnd K' hK
                                have r98 : A'.tmps[98]? = some (.slice (some ⟨g9, 0, none⟩) N N) := hW.val 0 98 (by decide) (hnd 0 (by kernel_rfl)) rfl
                                have r99 : A'.tmps[99]? = some (iv j) := hW.val 1 99 (by decide) (hnd 1 (by kernel_rfl)) rfl
                                go_simp
                                exact hK _ (hW.wi.same (by decide))
                              · intro L A' u hW hL0 hnd K' hK
                                have r100 : A'.tmps[100]? = some (.pointer (some ⟨g9, j, none⟩)) := hW.val 2 100 (by decide) (hnd 2 (by kernel_rfl)) rfl
                                have n6 : L 6 = false := notYet hW.closed (j := 6) (by rfl) (k := 3) (by kernel_rfl) hL0
                                have n8 : L 8 = false := notYet hW.closed (j := 8) (by rfl) (k := 6) (by kernel_rfl) n6
                                obtain ⟨kk, rfl⟩ := hW.wi.no n8
                                go_simp
                                exact hK _ (hW.wi.same (by decide))
                              · intro L A' u hW hL0 hnd K' hK
                                have r9 : A'.tmps[9]? = some (.pointer (some ⟨w1.heap.size, 0, none⟩)) := (hW.out 9 (fun j hj => noOutT j 9 hj (by kernel_rfl))).trans rfl
                                go_simp
                                exact hK _ (hW.wi.same (by decide))
                              · intro L A' u hW hL0 hnd K' hK
                                have r102 : A'.tmps[102]? = some (.pointer (some ⟨w1.heap.size, 2, none⟩)) := hW.val 4 102 (by decide) (hnd 4 (by kernel_rfl)) rfl
                                have n6 : L 6 = false := notYet hW.closed (j := 6) (by rfl) (k := 5) (by kernel_rfl) hL0
                                have n8 : L 8 = false := notYet hW.closed (j := 8) (by rfl) (k := 6) (by kernel_rfl) n6
                                obtain ⟨kk, rfl⟩ := hW.wi.no n8
                                go_simp
                                exact hK _ (hW.wi.same (by decide))
                              · intro L A' u hW hL0 hnd K' hK
                                have r101 : A'.tmps[101]? = some (iv x) := hW.val 3 101 (by decide) (hnd 3 (by kernel_rfl)) rfl
                                have r103 : A'.tmps[103]? = some (iv wd) := hW.val 5 103 (by decide) (hnd 5 (by kernel_rfl)) rfl
                                go_simp
                                first | rw [hwy] | skip
                                exact hK _ (hW.wi.same (by decide))
                              · intro L A' u hW hL0 hnd K' hK
                                have r98 : A'.tmps[98]? = some (.slice (some ⟨g9, 0, none⟩) N N) := hW.val 0 98 (by decide) (hnd 0 (by kernel_rfl)) rfl
                                have r99 : A'.tmps[99]? = some (iv j) := hW.val 1 99 (by decide) (hnd 1 (by kernel_rfl)) rfl
                                go_simp
                                exact hK _ (hW.wi.same (by decide))
                              · intro L A' u hW hL0 hnd K' hK
                                have r105 : A'.tmps[105]? = some (.pointer (some ⟨g9, j, none⟩)) := hW.val 7 105 (by decide) (hnd 7 (by kernel_rfl)) rfl
                                have r104 : A'.tmps[104]? = some (iv y) := hW.val 6 104 (by decide) (hnd 6 (by kernel_rfl)) rfl
                                obtain ⟨kk, rfl⟩ := hW.wi.no hL0
                                go_simp
                                exact hK _ (CaW.made (HSt.out kk))
                            case doneT =>
                              intro L u hWI hall
                              obtain ⟨hB4, ho4⟩ := hWI.yes (hall 8 (by decide))
                              clear hWI hall noOutT
                              have HB4 := Lib.hid hB4
                              have HO4' := Lib.hid ho4
                              clear hB4 ho4 HSt
                              simp only [putV, List.foldl_cons, List.foldl_nil, List.setIfInBounds_toArray, List.set_cons_zero, List.set_cons_succ]
                              go_wp2
                              go_roundw
                              case rel => exact ⟨j + 1, by omega, by go_num, HB4.out, HO4'.out⟩
                              case measure => simp [intOf]; omega
                          · have hjN : N = j := by omega
                            subst hjN
                            have HQw := Lib.hid (HBq10.out.only HOw.out (fun e => htq e))
                            have HRw := Lib.hid (rd_just HR10.out HBl10.out (by decide) htr HOw.out)
                            have HOx := Lib.hid (only_just HO10.out HOw.out hts)
                            have HBx : Hid (Box wr g9 3 (((ys).map (mul2 wd)).map iv).toArray) := Lib.hid (by
                              have h := HBw.out
                              rwa [upTo_all _ _ _ (by rw [HYl.out]; exact Nat.le_refl _)] at h)
                            have htqn : w.heap.size + 1 < wr.heap.size := HQw.out.lt
                            clear HBw
                            have p0 := HPw.out.cell 0
                            have p1 := HPw.out.cell 1
                            have p2 := HPw.out.cell 2
                            have p3 := HPw.out.cell 3
                            have p4 := HPw.out.cell 4
                            have p5 := HPw.out.cell 5
                            have p6 := HPw.out.cell 6
                            have p7 := HPw.out.cell 7
                            have p8 := HPw.out.cell 8
                            have p9 := HPw.out.cell 9
                            simp only [List.getElem?_toArray, List.getElem?_cons_zero, List.getElem?_cons_succ] at p0 p1 p2 p3 p4 p5 p6 p7 p8 p9
                            go_wp2_with fail
                            have noOutF : ∀ j s, j < 6 → (([some 107, some 108, some 109, some 6, none, some 8] : List (Option Nat)).all fun d => d != some s) = true → ([some 107, some 108, some 109, some 6, none, some 8] : List (Option Nat)).getD j none ≠ some s := by
                              intro j s hj ha e
                              rw [List.getD_eq_getElem?_getD, List.getElem?_eq_getElem (by exact hj), Option.getD_some] at e
                              have := List.all_eq_true.1 ha _ (List.getElem_mem (by exact hj))
                              rw [e] at this
                              simp at this
                            refine region_val (by kernel_rfl) (fun k0 => ([some 107, some 108, some 109, some 6, none, some 8] : List (Option Nat)).getD k0 none) (fun k0 => ([(.slice (some ⟨g9, 0, none⟩) N N), (.agg (spC 3 o wd P S (.slice (some ⟨gc, 0, none⟩) o o) m ro (.slice (some ⟨gp, 0, none⟩) Q Q) (.slice (some ⟨gb, 0, none⟩) Q Q))), (iv 0), (.slice (some ⟨g9, 0, none⟩) N N), (undef), (iv 0)] : List Value).getD k0 undef) (CaW 4 wr (fun u => Box u (w.heap.size + 1) 28 (spC 3 o wd P S (.slice (some ⟨gc, 0, none⟩) o o) m ro (.slice (some ⟨gp, 0, none⟩) Q Q) (.slice (some ⟨gb, 0, none⟩) Q Q)) ∧ Only (Just (w.heap.size + 1)) wr u)) 110 6 rfl (by kernel_rfl) (by kernel_rfl) rfl (by kernel_rfl) (by kernel_rfl) ⟨fun _ => ⟨1, rfl⟩, fun e => by cases e⟩ ?stepsF [(107, .slice (some ⟨g9, 0, none⟩) N N), (108, .agg (spC 3 o wd P S (.slice (some ⟨gc, 0, none⟩) o o) m ro (.slice (some ⟨gp, 0, none⟩) Q Q) (.slice (some ⟨gb, 0, none⟩) Q Q))), (109, iv 0), (6, .slice (some ⟨g9, 0, none⟩) N N), (8, iv 0)] rfl ?doneF
                            case stepsF =>
                              refine ⟨?_, ?_, ?_, ?_, ?_, ?_, trivial⟩
                              · intro L A' u hW hL0 hnd K' hK
                                have r11 : A'.tmps[11]? = some (.slice (some ⟨g9, 0, none⟩) N N) := (hW.out 11 (fun j hj => noOutF j 11 hj (by kernel_rfl))).trans rfl
                                go_simp
                                exact hK _ (hW.wi.same (by decide))
                              · intro L A' u hW hL0 hnd K' hK
                                have r9 : A'.tmps[9]? = some (.pointer (some ⟨w1.heap.size, 0, none⟩)) := (hW.out 9 (fun j hj => noOutF j 9 hj (by kernel_rfl))).trans rfl
                                have n4 : L 4 = false := notYet hW.closed (j := 4) (by rfl) (k := 1) (by kernel_rfl) hL0
                                obtain ⟨kk, rfl⟩ := hW.wi.no n4
                                go_simp
                                exact hK _ (hW.wi.same (by decide))
                              · intro L A' u hW hL0 hnd K' hK
                                have r10 : A'.tmps[10]? = some (iv 0) := (hW.out 10 (fun j hj => noOutF j 10 hj (by kernel_rfl))).trans rfl
                                go_simp
                                exact hK _ (hW.wi.same (by decide))
                              · intro L A' u hW hL0 hnd K' hK
                                have r107 : A'.tmps[107]? = some (.slice (some ⟨g9, 0, none⟩) N N) := hW.val 0 107 (by decide) (hnd 0 (by kernel_rfl)) rfl
                                go_simp
                                exact hK _ (hW.wi.same (by decide))
                              · intro L A' u hW hL0 hnd K' hK
                                have r7 : A'.tmps[7]? = some (.pointer (some ⟨w.heap.size + 1, 0, none⟩)) := (hW.out 7 (fun j hj => noOutF j 7 hj (by kernel_rfl))).trans rfl
                                have r108 : A'.tmps[108]? = some (.agg (spC 3 o wd P S (.slice (some ⟨gc, 0, none⟩) o o) m ro (.slice (some ⟨gp, 0, none⟩) Q Q) (.slice (some ⟨gb, 0, none⟩) Q Q))) := hW.val 1 108 (by decide) (hnd 1 (by kernel_rfl)) rfl
                                obtain ⟨kk, rfl⟩ := hW.wi.no hL0
                                refine step_store_row rfl 28 (.tmp 7) (.tmp 108) rfl rfl (w.heap.size + 1) 28 zC (spC 3 o wd P S (.slice (some ⟨gc, 0, none⟩) o o) m ro (.slice (some ⟨gp, 0, none⟩) Q Q) (.slice (some ⟨gb, 0, none⟩) Q Q)) (by simp [Act.eval, r7]) (by simp [Act.eval, r108]) (HQw.out.drewN kk) Tryz.size_plan rfl (spC_one _ _ _ _ _ _ _ _ _ _ _ _ _ _ _ _) ?_
                                intro u' hb' ho'
                                exact hK _ (CaW.made ⟨hb', ⟨ho'.os, ho'.tape, ho'.output, ho'.size, ho'.block⟩⟩)
                              · intro L A' u hW hL0 hnd K' hK
                                have r109 : A'.tmps[109]? = some (iv 0) := hW.val 2 109 (by decide) (hnd 2 (by kernel_rfl)) rfl
                                go_simp
                                exact hK _ (hW.wi.same (by decide))
                            case doneF =>
                              intro L u hWI hall
                              obtain ⟨hB4, ho4⟩ := hWI.yes (hall 4 (by decide))
                              clear hWI hall noOutF
                              have Z1 := Lib.hid (rd_just HRw.out HQw.out (by decide) hnq ho4)
                              have Z2 := Lib.hid (only_just HOx.out ho4 (by omega))
                              have ZF := Lib.hid ho4
                              have ZL := Lib.hid (HBx.out.only ho4 (fun e => htq e.symm))
                              have y0 := hB4.cell 0
                              have y1 := hB4.cell 1
                              have y2 := hB4.cell 2
                              have y3 := hB4.cell 3
                              have y4 := hB4.cell 4
                              have y5 := hB4.cell 5
                              have y6 := hB4.cell 6
                              have y7 := hB4.cell 7
                              have y8 := hB4.cell 8
                              have y9 := hB4.cell 9
                              simp only [List.getElem?_toArray, List.getElem?_cons_zero, List.getElem?_cons_succ] at y0 y1 y2 y3 y4 y5 y6 y7 y8 y9
                              clear hB4 ho4
                              simp only [putV, List.foldl_cons, List.foldl_nil, List.setIfInBounds_toArray, List.set_cons_zero, List.set_cons_succ]
                              go_wp2
                              refine bodyPost_ret (v := .tuple #[.slice (some ⟨g9, 0, none⟩) N N, spV 3 o wd P S (.slice (some ⟨gc, 0, none⟩) o o) m ro (.slice (some ⟨gp, 0, none⟩) Q Q) (.slice (some ⟨gb, 0, none⟩) Q Q), iv 0]) ?_ rfl ?_
                              · simp [results, Tryz.f44, go_sem, y0, y1, y2, y3, y4, y5, y6, y7, y8, y9]
                              exact .inr ⟨k, o, wd, P, S, cs, m, ro, rs.map (·.1), rs.map (·.2.1), _, a5, some ⟨g9, 0, none⟩, some ⟨gc, 0, none⟩, some ⟨gp, 0, none⟩, some ⟨gb, 0, none⟩, N, N, o, o, Q, Q, Q, Q, by rw [hkz], HChk.out _ _ _ _ _ _ _ _ _ ((.inr (.inr (.inr ⟨hk, P, aL, rfl, HLn2.out, m, ro, rs, rfl, rfl, HPa.out, rfl, rfl, by rw [Hds.out]; exact HRs.out, by rw [Hds.out]; exact Hys.out.symm⟩)))), ISb.of_box ZL.out (by rw [List.length_map, HYl.out]) (by rw [List.length_map, HYl.out]; omega) (mul2_all hdwd HYf.out), isrc_just (isrc_just HSc10.out HOw.out (by omega)) ZF.out hgcq, isrc_just (isrc_just HSp10.out HOw.out hg9p) ZF.out hgpq, isrc_just (isrc_just HSb10.out HOw.out hg9b) ZF.out hgbq, Z1.out, Z2.out⟩
                      · have he := HRd.out.bad hRs
                        subst he
                        have HRs := Lib.hid hRs
                        clear hRs HRd
                        have hqn := HBq10.out.lt
                        have p0 := HBp10.out.cell 0
                        have p1 := HBp10.out.cell 1
                        have p2 := HBp10.out.cell 2
                        have p3 := HBp10.out.cell 3
                        have p4 := HBp10.out.cell 4
                        have p5 := HBp10.out.cell 5
                        have p6 := HBp10.out.cell 6
                        have p7 := HBp10.out.cell 7
                        have p8 := HBp10.out.cell 8
                        have p9 := HBp10.out.cell 9
                        simp only [List.getElem?_toArray, List.getElem?_cons_zero, List.getElem?_cons_succ] at p0 p1 p2 p3 p4 p5 p6 p7 p8 p9
                        go_wp2
                        go_loopw [95] (fun s wr => TnP w10 s wr) (fun _ _ => 0)
                        case atStart => exact ⟨rfl, rfl⟩
                        case round =>
                          obtain ⟨rfl, hwr⟩ := hrel
                          subst hwr
                          go_wp2_with fail
                          have noOutF : ∀ j s, j < 6 → (([some 107, some 108, some 109, some 6, none, some 8] : List (Option Nat)).all fun d => d != some s) = true → ([some 107, some 108, some 109, some 6, none, some 8] : List (Option Nat)).getD j none ≠ some s := by
                            intro j s hj ha e
                            rw [List.getD_eq_getElem?_getD, List.getElem?_eq_getElem (by exact hj), Option.getD_some] at e
                            have := List.all_eq_true.1 ha _ (List.getElem_mem (by exact hj))
                            rw [e] at this
                            simp at this
                          refine region_val (by kernel_rfl) (fun k0 => ([some 107, some 108, some 109, some 6, none, some 8] : List (Option Nat)).getD k0 none) (fun k0 => ([((.slice none 0 0)), (.agg (spC 3 o wd P S (.slice (some ⟨gc, 0, none⟩) o o) m ro (.slice (some ⟨gp, 0, none⟩) Q Q) (.slice (some ⟨gb, 0, none⟩) Q Q))), (iv 10), ((.slice none 0 0)), (undef), (iv 10)] : List Value).getD k0 undef) (CaW 4 w10 (fun u => Box u (w.heap.size + 1) 28 (spC 3 o wd P S (.slice (some ⟨gc, 0, none⟩) o o) m ro (.slice (some ⟨gp, 0, none⟩) Q Q) (.slice (some ⟨gb, 0, none⟩) Q Q)) ∧ Only (Just (w.heap.size + 1)) w10 u)) 110 6 rfl (by kernel_rfl) (by kernel_rfl) rfl (by kernel_rfl) (by kernel_rfl) ⟨fun _ => ⟨1, rfl⟩, fun e => by cases e⟩ ?stepsF [(107, (.slice none 0 0)), (108, .agg (spC 3 o wd P S (.slice (some ⟨gc, 0, none⟩) o o) m ro (.slice (some ⟨gp, 0, none⟩) Q Q) (.slice (some ⟨gb, 0, none⟩) Q Q))), (109, iv 10), (6, (.slice none 0 0)), (8, iv 10)] rfl ?doneF
                          case stepsF =>
                            refine ⟨?_, ?_, ?_, ?_, ?_, ?_, trivial⟩
                            · intro L A' u hW hL0 hnd K' hK
                              have r11 : A'.tmps[11]? = some ((.slice none 0 0)) := (hW.out 11 (fun j hj => noOutF j 11 hj (by kernel_rfl))).trans rfl
                              go_simp
                              exact hK _ (hW.wi.same (by decide))
                            · intro L A' u hW hL0 hnd K' hK
                              have r9 : A'.tmps[9]? = some (.pointer (some ⟨w1.heap.size, 0, none⟩)) := (hW.out 9 (fun j hj => noOutF j 9 hj (by kernel_rfl))).trans rfl
                              have n4 : L 4 = false := notYet hW.closed (j := 4) (by rfl) (k := 1) (by kernel_rfl) hL0
                              obtain ⟨kk, rfl⟩ := hW.wi.no n4
                              go_simp
                              exact hK _ (hW.wi.same (by decide))
                            · intro L A' u hW hL0 hnd K' hK
                              have r10 : A'.tmps[10]? = some (iv 10) := (hW.out 10 (fun j hj => noOutF j 10 hj (by kernel_rfl))).trans rfl
                              go_simp
                              exact hK _ (hW.wi.same (by decide))
                            · intro L A' u hW hL0 hnd K' hK
                              have r107 : A'.tmps[107]? = some ((.slice none 0 0)) := hW.val 0 107 (by decide) (hnd 0 (by kernel_rfl)) rfl
                              go_simp
                              exact hK _ (hW.wi.same (by decide))
                            · intro L A' u hW hL0 hnd K' hK
                              have r7 : A'.tmps[7]? = some (.pointer (some ⟨w.heap.size + 1, 0, none⟩)) := (hW.out 7 (fun j hj => noOutF j 7 hj (by kernel_rfl))).trans rfl
                              have r108 : A'.tmps[108]? = some (.agg (spC 3 o wd P S (.slice (some ⟨gc, 0, none⟩) o o) m ro (.slice (some ⟨gp, 0, none⟩) Q Q) (.slice (some ⟨gb, 0, none⟩) Q Q))) := hW.val 1 108 (by decide) (hnd 1 (by kernel_rfl)) rfl
                              obtain ⟨kk, rfl⟩ := hW.wi.no hL0
                              refine step_store_row rfl 28 (.tmp 7) (.tmp 108) rfl rfl (w.heap.size + 1) 28 zC (spC 3 o wd P S (.slice (some ⟨gc, 0, none⟩) o o) m ro (.slice (some ⟨gp, 0, none⟩) Q Q) (.slice (some ⟨gb, 0, none⟩) Q Q)) (by simp [Act.eval, r7]) (by simp [Act.eval, r108]) (HBq10.out.drewN kk) Tryz.size_plan rfl (spC_one _ _ _ _ _ _ _ _ _ _ _ _ _ _ _ _) ?_
                              intro u' hb' ho'
                              exact hK _ (CaW.made ⟨hb', ⟨ho'.os, ho'.tape, ho'.output, ho'.size, ho'.block⟩⟩)
                            · intro L A' u hW hL0 hnd K' hK
                              have r109 : A'.tmps[109]? = some (iv 10) := hW.val 2 109 (by decide) (hnd 2 (by kernel_rfl)) rfl
                              go_simp
                              exact hK _ (hW.wi.same (by decide))
                          case doneF =>
                            intro L u hWI hall
                            obtain ⟨hB4, ho4⟩ := hWI.yes (hall 4 (by decide))
                            clear hWI hall noOutF
                            have Z1 := Lib.hid (rd_just HR10.out HBq10.out (by decide) hnq ho4)
                            have Z2 := Lib.hid (only_just HO10.out ho4 (by omega))
                            have y0 := hB4.cell 0
                            have y1 := hB4.cell 1
                            have y2 := hB4.cell 2
                            have y3 := hB4.cell 3
                            have y4 := hB4.cell 4
                            have y5 := hB4.cell 5
                            have y6 := hB4.cell 6
                            have y7 := hB4.cell 7
                            have y8 := hB4.cell 8
                            have y9 := hB4.cell 9
                            simp only [List.getElem?_toArray, List.getElem?_cons_zero, List.getElem?_cons_succ] at y0 y1 y2 y3 y4 y5 y6 y7 y8 y9
                            clear hB4 ho4
                            simp only [putV, List.foldl_cons, List.foldl_nil, List.setIfInBounds_toArray, List.set_cons_zero, List.set_cons_succ]
                            go_wp2
                            refine bodyPost_ret (v := .tuple #[(.slice none 0 0), spV 3 o wd P S (.slice (some ⟨gc, 0, none⟩) o o) m ro (.slice (some ⟨gp, 0, none⟩) Q Q) (.slice (some ⟨gb, 0, none⟩) Q Q), iv 10]) ?_ rfl ?_
                            · simp [results, Tryz.f44, go_sem, y0, y1, y2, y3, y4, y5, y6, y7, y8, y9]
                            refine .inl ⟨_, _, 10, _, rfl, rfl, (spC_one _ _ _ _ _ _ _ _ _ _ _ _ _ _ _ _), by decide, Z1.out, Z2.out, fun k' o' wd' lp' ls' cs' m' ro' ps' ws' xs' a' h => ?_⟩
                            obtain ⟨ys, h⟩ := HChn.out _ _ _ _ _ _ _ _ _ _ _ _ h
                            rcases h with ⟨h, _⟩ | ⟨h, _⟩ | ⟨h, _⟩ | ⟨_, P2, a3', h1, hln2, m2, ro2, rs2, _, _, hP, _, _, hRk, _⟩
                            · omega
                            · omega
                            · omega
                            obtain ⟨rfl, rfl, rfl, rfl⟩ := hln2.det HLn2.out
                            subst h1
                            obtain ⟨rfl, rfl, rfl, rfl⟩ := Parse.det hP HPa.out
                            rw [Hds.out] at hRk
                            exact HRs.out hRk
        · have rb0 := HrB.out
          simp only [List.getElem?_toArray, List.getElem?_cons_zero] at rb0
          have p0 := HBp4.out.cell 0
          have p1 := HBp4.out.cell 1
          have p2 := HBp4.out.cell 2
          have p3 := HBp4.out.cell 3
          have p4 := HBp4.out.cell 4
          have p5 := HBp4.out.cell 5
          have p6 := HBp4.out.cell 6
          have p7 := HBp4.out.cell 7
          have p8 := HBp4.out.cell 8
          have p9 := HBp4.out.cell 9
          simp only [List.getElem?_toArray, List.getElem?_cons_zero, List.getElem?_cons_succ] at p0 p1 p2 p3 p4 p5 p6 p7 p8 p9
          have noOutS : ∀ j s, j < 11 → (([some 39, some 40, some 41, some 42, some 43, some 44, some 38, some 45, some 46, some 11, some 10] : List (Option Nat)).all fun d => d != some s) = true → ([some 39, some 40, some 41, some 42, some 43, some 44, some 38, some 45, some 46, some 11, some 10] : List (Option Nat)).getD j none ≠ some s := by
            intro j s hj ha e
            rw [List.getD_eq_getElem?_getD, List.getElem?_eq_getElem (by exact hj), Option.getD_some] at e
            have := List.all_eq_true.1 ha _ (List.getElem_mem (by exact hj))
            rw [e] at this
            simp at this
          refine region_gho (by kernel_rfl) (fun k0 => ([some 39, some 40, some 41, some 42, some 43, some 44, some 38, some 45, some 46, some 11, some 10] : List (Option Nat)).getD k0 none) (fun k0 => ([some (.agg #[.pointer (some ⟨r, 0, none⟩)]), some (.agg (spC k o wd 0 0 (.slice none 0 0) 0 0 (.slice none 0 0) (.slice none 0 0))), some (iv b), some (iv n), some (iv dp), none, none, none, none, none, none] : List (Option Value)).getD k0 none) (AskW w4 0 11 (fun A c u => A = none ∧ c = 0 ∧ Rd u r v bs a3 ∧ Only (Just r) w4 u)) 110 11 rfl (by kernel_rfl) (by kernel_rfl) rfl (by kernel_rfl) (by kernel_rfl) ⟨fun _ => (Only.refl Nix _).drew, (fun e => by cases e)⟩ ?stepsS (fun vs => [(39, vs 0), (40, vs 1), (41, vs 2), (42, vs 3), (43, vs 4), (44, vs 5), (38, vs 6), (45, vs 7), (46, vs 8), (11, vs 9), (10, vs 10)]) (fun vs => rfl) ?doneS
          case stepsS =>
            refine ⟨?_, ?_, ?_, ?_, ?_, ?_, ?_, ?_, ?_, ?_, ?_, trivial⟩
            · intro L vs A' u hW hL0 hnd K' hK
              have n5 : L 5 = false := notYet hW.closed (j := 5) (by rfl) (k := 0) (by kernel_rfl) hL0
              have r3 : A'.tmps[3]? = some (.pointer (some ⟨w.heap.size, 0, none⟩)) := (hW.out 3 (fun j hj => noOutS j 3 hj (by kernel_rfl))).trans rfl
              have hc0 := cell_keep (hW.wi.low n5) rb0
              go_simp
              exact hK _ _ (fun v0 e => by cases e; rfl) (hW.wi.lo n5 (by decide) (Only.refl _ _))
            · intro L vs A' u hW hL0 hnd K' hK
              have n3 : L 3 = false := notYet hW.closed (j := 3) (by rfl) (k := 1) (by kernel_rfl) hL0
              have n5 : L 5 = false := notYet hW.closed (j := 5) (by rfl) (k := 3) (by kernel_rfl) n3
              have r9 : A'.tmps[9]? = some (.pointer (some ⟨w1.heap.size, 0, none⟩)) := (hW.out 9 (fun j hj => noOutS j 9 hj (by kernel_rfl))).trans rfl
              have hc0 := cell_keep (hW.wi.low n5) p0
              have hc1 := cell_keep (hW.wi.low n5) p1
              have hc2 := cell_keep (hW.wi.low n5) p2
              have hc3 := cell_keep (hW.wi.low n5) p3
              have hc4 := cell_keep (hW.wi.low n5) p4
              have hc5 := cell_keep (hW.wi.low n5) p5
              have hc6 := cell_keep (hW.wi.low n5) p6
              have hc7 := cell_keep (hW.wi.low n5) p7
              have hc8 := cell_keep (hW.wi.low n5) p8
              have hc9 := cell_keep (hW.wi.low n5) p9
              go_simp
              exact hK _ _ (fun v0 e => by cases e; rfl) (hW.wi.lo n5 (by decide) (Only.refl _ _))
            · intro L vs A' u hW hL0 hnd K' hK
              have n3 : L 3 = false := notYet hW.closed (j := 3) (by rfl) (k := 2) (by kernel_rfl) hL0
              have n5 : L 5 = false := notYet hW.closed (j := 5) (by rfl) (k := 3) (by kernel_rfl) n3
              have r1 : A'.tmps[1]? = some (iv b) := (hW.out 1 (fun j hj => noOutS j 1 hj (by kernel_rfl))).trans rfl
              go_simp
              exact hK _ _ (fun v0 e => by cases e; rfl) (hW.wi.lo n5 (by decide) (Only.refl _ _))
            · intro L vs A' u hW hL0 hnd K' hK
              have n5 : L 5 = false := notYet hW.closed (j := 5) (by rfl) (k := 3) (by kernel_rfl) hL0
              have r40 : A'.tmps[40]? = some (.agg (spC k o wd 0 0 (.slice none 0 0) 0 0 (.slice none 0 0) (.slice none 0 0))) := by
                have h := hW.val 1 40 (by decide) (hnd 1 (by kernel_rfl)) rfl
                rw [hW.known 1 _ (hnd 1 (by kernel_rfl)) rfl] at h
                exact h
              have r41 : A'.tmps[41]? = some (iv b) := by
                have h := hW.val 2 41 (by decide) (hnd 2 (by kernel_rfl)) rfl
                rw [hW.known 2 _ (hnd 2 (by kernel_rfl)) rfl] at h
                exact h
              have HCL := Lib.hid (HPm.out u)
              go_simp
              refine (HCL.out).mono ?_
              rintro e' u' ⟨rfl, ho'⟩
              exact hK _ _ (fun v0 e => by cases e; rfl) (hW.wi.lo n5 (by decide) ho')
            · intro L vs A' u hW hL0 hnd K' hK
              have n5 : L 5 = false := notYet hW.closed (j := 5) (by rfl) (k := 4) (by kernel_rfl) hL0
              have r2 : A'.tmps[2]? = some (iv dp) := (hW.out 2 (fun j hj => noOutS j 2 hj (by kernel_rfl))).trans rfl
              go_simp
              exact hK _ _ (fun v0 e => by cases e; rfl) (hW.wi.lo n5 (by decide) (Only.refl _ _))
            · intro L vs A' u hW hL0 hnd K' hK
              have n6 : L 6 = false := notYet hW.closed (j := 6) (by rfl) (k := 5) (by kernel_rfl) hL0
              have n7 : L 7 = false := notYet hW.closed (j := 7) (by rfl) (k := 6) (by kernel_rfl) n6
              have n9 : L 9 = false := notYet hW.closed (j := 9) (by rfl) (k := 7) (by kernel_rfl) n7
              have p6 : L 6 = false := notYet hW.closed (j := 6) (by rfl) (k := 5) (by kernel_rfl) hL0
              have p8 : L 8 = false := notYet hW.closed (j := 8) (by rfl) (k := 6) (by kernel_rfl) p6
              have p10 : L 10 = false := notYet hW.closed (j := 10) (by rfl) (k := 8) (by kernel_rfl) p8
              have r39 : A'.tmps[39]? = some (.agg #[.pointer (some ⟨r, 0, none⟩)]) := by
                have h := hW.val 0 39 (by decide) (hnd 0 (by kernel_rfl)) rfl
                rw [hW.known 0 _ (hnd 0 (by kernel_rfl)) rfl] at h
                exact h
              have r42 : A'.tmps[42]? = some (iv n) := by
                have h := hW.val 3 42 (by decide) (hnd 3 (by kernel_rfl)) rfl
                rw [hW.known 3 _ (hnd 3 (by kernel_rfl)) rfl] at h
                exact h
              have r43 : A'.tmps[43]? = some (iv dp) := by
                have h := hW.val 4 43 (by decide) (hnd 4 (by kernel_rfl)) rfl
                rw [hW.known 4 _ (hnd 4 (by kernel_rfl)) rfl] at h
                exact h
              have HCL := Lib.hid (HSm.out u (hW.wi.low hL0))
              go_simp
              refine (HCL.out).mono ?_
              rintro e' u' (⟨hlt, rfl, hR5, ho'⟩ | ⟨hle', g, rfl, hb5, hg5, hR5, ho'⟩)
              · exact hK _ _ (fun v0 e => by cases e) (AskW.ask n6 n7 p8 n9 p10 none 0 rfl ⟨rfl, rfl, hR5, (hW.wi.low hL0).nix.trans ho'⟩)
              · exact absurd hle' hle
            · intro L vs A' u hW hL0 hnd K' hK
              have r44 : A'.tmps[44]? = some (vs 5) := hW.val 5 44 (by decide) (hnd 5 (by kernel_rfl)) rfl
              go_simp
              exact hK _ _ (fun v0 e => by cases e) (hW.wi.s6 rfl)
            · intro L vs A' u hW hL0 hnd K' hK
              obtain ⟨A9, c9, g5, hG9, g6, g7, g8, g9, g10⟩ := hW.wi.got (hW.closed 6 _ 5 (by rfl) (hnd 6 (by kernel_rfl)) (by kernel_rfl))
              have r38 : A'.tmps[38]? = some (.tuple #[.slice A9 0 c9, iv 11]) := by rw [hW.val 6 38 (by decide) (hnd 6 (by kernel_rfl)) rfl, g6 (hnd 6 (by kernel_rfl))]
              go_simp
              exact hK _ _ (fun v0 e => by cases e) (hW.wi.s7 (fun A c e => by rw [g5] at e; injection e with e; simp at e; obtain ⟨rfl, rfl⟩ := e; first | rfl | rw [hG9.1, hG9.2.1]))
            · intro L vs A' u hW hL0 hnd K' hK
              obtain ⟨A9, c9, g5, hG9, g6, g7, g8, g9, g10⟩ := hW.wi.got (hW.closed 6 _ 5 (by rfl) (hnd 6 (by kernel_rfl)) (by kernel_rfl))
              have r38 : A'.tmps[38]? = some (.tuple #[.slice A9 0 c9, iv 11]) := by rw [hW.val 6 38 (by decide) (hnd 6 (by kernel_rfl)) rfl, g6 (hnd 6 (by kernel_rfl))]
              go_simp
              exact hK _ _ (fun v0 e => by cases e) (hW.wi.s8 rfl)
            · intro L vs A' u hW hL0 hnd K' hK
              have l6 := hW.closed 7 _ 6 (by rfl) (hnd 7 (by kernel_rfl)) (by kernel_rfl)
              obtain ⟨A9, c9, g5, hG9, g6, g7, g8, g9, g10⟩ := hW.wi.got (hW.closed 6 _ 5 (by rfl) l6 (by kernel_rfl))
              have r45 : A'.tmps[45]? = some (.slice A9 0 c9) := by rw [hW.val 7 45 (by decide) (hnd 7 (by kernel_rfl)) rfl, g7 (hnd 7 (by kernel_rfl))]
              go_simp
              exact hK _ _ (fun v0 e => by cases e) (hW.wi.s9 (fun A c e => by rw [g5] at e; injection e with e; simp at e; obtain ⟨rfl, rfl⟩ := e; first | rfl | rw [hG9.1, hG9.2.1]))
            · intro L vs A' u hW hL0 hnd K' hK
              have l6 := hW.closed 8 _ 6 (by rfl) (hnd 8 (by kernel_rfl)) (by kernel_rfl)
              obtain ⟨A9, c9, g5, hG9, g6, g7, g8, g9, g10⟩ := hW.wi.got (hW.closed 6 _ 5 (by rfl) l6 (by kernel_rfl))
              have r46 : A'.tmps[46]? = some (iv 11) := by rw [hW.val 8 46 (by decide) (hnd 8 (by kernel_rfl)) rfl, g8 (hnd 8 (by kernel_rfl))]
              go_simp
              exact hK _ _ (fun v0 e => by cases e) (hW.wi.s10 rfl)
          case doneS =>
            intro L vs w5 hWI hkn hall
            obtain ⟨A9, c9, g5, hG9, g6, g7, g8, g9, g10⟩ := hWI.got (hall 5 (by decide))
            have g6 := g6 (hall 6 (by decide))
            have g7 := g7 (hall 7 (by decide))
            have g8 := g8 (hall 8 (by decide))
            have g9 := g9 (hall 9 (by decide))
            have g10 := g10 (hall 10 (by decide))
            have k0 := hkn 0 _ (by decide) rfl
            have k1 := hkn 1 _ (by decide) rfl
            have k2 := hkn 2 _ (by decide) rfl
            have k3 := hkn 3 _ (by decide) rfl
            have k4 := hkn 4 _ (by decide) rfl
            have HG := Lib.hid hG9
            simp only [putV, List.foldl_cons, List.foldl_nil, g5, g6, g7, g8, g9, g10, k0, k1, k2, k3, k4, List.setIfInBounds_toArray, List.set_cons_zero, List.set_cons_succ]
            clear hWI hkn hall g5 g6 g7 g8 g9 g10 k0 k1 k2 k3 k4 hG9 noOutS HSm HPm rb0 p0 p1 p2 p3 p4 p5 p6 p7 p8 p9
            obtain ⟨rfl, rfl, hR5, o5⟩ := HG.out
            have HBp5 := Lib.hid (HBp4.out.only o5 (fun e => hnp e))
            have HBq5 := Lib.hid (HBq4.out.only o5 (fun e => hnq e))
            have HR5 := Lib.hid hR5
            have HO5 := Lib.hid (HO4.out.trans o5)
            have HLe := Lib.hid hle
            clear hR5 o5 HG hle
            have p0 := HBp5.out.cell 0
            have p1 := HBp5.out.cell 1
            have p2 := HBp5.out.cell 2
            have p3 := HBp5.out.cell 3
            have p4 := HBp5.out.cell 4
            have p5 := HBp5.out.cell 5
            have p6 := HBp5.out.cell 6
            have p7 := HBp5.out.cell 7
            have p8 := HBp5.out.cell 8
            have p9 := HBp5.out.cell 9
            simp only [List.getElem?_toArray, List.getElem?_cons_zero, List.getElem?_cons_succ] at p0 p1 p2 p3 p4 p5 p6 p7 p8 p9
            go_wp2_with fail
            have noOutX : ∀ j s, j < 5 → (([some 49, some 50, some 6, none, some 8] : List (Option Nat)).all fun d => d != some s) = true → ([some 49, some 50, some 6, none, some 8] : List (Option Nat)).getD j none ≠ some s := by
              intro j s hj ha e
              rw [List.getD_eq_getElem?_getD, List.getElem?_eq_getElem (by exact hj), Option.getD_some] at e
              have := List.all_eq_true.1 ha _ (List.getElem_mem (by exact hj))
              rw [e] at this
              simp at this
            refine region_val (by kernel_rfl) (fun k0 => ([some 49, some 50, some 6, none, some 8] : List (Option Nat)).getD k0 none) (fun k0 => ([(.agg (spC k o wd 0 0 (.slice none 0 0) 0 0 (.slice none 0 0) (.slice none 0 0))), (iv 11), (.slice none 0 0), (undef), (iv 11)] : List Value).getD k0 undef) (CaW 3 w5 (fun u => Box u (w.heap.size + 1) 28 (spC k o wd 0 0 (.slice none 0 0) 0 0 (.slice none 0 0) (.slice none 0 0)) ∧ Only (Just (w.heap.size + 1)) w5 u)) 110 5 rfl (by kernel_rfl) (by kernel_rfl) rfl (by kernel_rfl) (by kernel_rfl) ⟨fun _ => ⟨1, rfl⟩, fun e => by cases e⟩ ?stepsX [(49, .agg (spC k o wd 0 0 (.slice none 0 0) 0 0 (.slice none 0 0) (.slice none 0 0))), (50, iv 11), (6, .slice none 0 0), (8, iv 11)] rfl ?doneX
            case stepsX =>
              refine ⟨?_, ?_, ?_, ?_, ?_, trivial⟩
              · intro L A' u hW hL0 hnd K' hK
                have r9 : A'.tmps[9]? = some (.pointer (some ⟨w1.heap.size, 0, none⟩)) := (hW.out 9 (fun j hj => noOutX j 9 hj (by kernel_rfl))).trans rfl
                have n3 : L 3 = false := notYet hW.closed (j := 3) (by rfl) (k := 0) (by kernel_rfl) hL0
                obtain ⟨kk, rfl⟩ := hW.wi.no n3
                go_simp
                exact hK _ (hW.wi.same (by decide))
              · intro L A' u hW hL0 hnd K' hK
                have r10 : A'.tmps[10]? = some (iv 11) := (hW.out 10 (fun j hj => noOutX j 10 hj (by kernel_rfl))).trans rfl
                go_simp
                exact hK _ (hW.wi.same (by decide))
              · intro L A' u hW hL0 hnd K' hK
                go_simp
                exact hK _ (hW.wi.same (by decide))
              · intro L A' u hW hL0 hnd K' hK
                have r7 : A'.tmps[7]? = some (.pointer (some ⟨w.heap.size + 1, 0, none⟩)) := (hW.out 7 (fun j hj => noOutX j 7 hj (by kernel_rfl))).trans rfl
                have r49 : A'.tmps[49]? = some (.agg (spC k o wd 0 0 (.slice none 0 0) 0 0 (.slice none 0 0) (.slice none 0 0))) := hW.val 0 49 (by decide) (hnd 0 (by kernel_rfl)) rfl
                obtain ⟨kk, rfl⟩ := hW.wi.no hL0
                refine step_store_row rfl 28 (.tmp 7) (.tmp 49) rfl rfl (w.heap.size + 1) 28 zC (spC k o wd 0 0 (.slice none 0 0) 0 0 (.slice none 0 0) (.slice none 0 0)) (by simp [Act.eval, r7]) (by simp [Act.eval, r49]) (HBq5.out.drewN kk) Tryz.size_plan rfl (spC_one _ _ _ _ _ _ _ _ _ _ _ _ _ _ _ _) ?_
                intro u' hb' ho'
                exact hK _ (CaW.made ⟨hb', ⟨ho'.os, ho'.tape, ho'.output, ho'.size, ho'.block⟩⟩)
              · intro L A' u hW hL0 hnd K' hK
                have r50 : A'.tmps[50]? = some (iv 11) := hW.val 1 50 (by decide) (hnd 1 (by kernel_rfl)) rfl
                go_simp
                exact hK _ (hW.wi.same (by decide))
            case doneX =>
              intro L u hWI hall
              obtain ⟨hB4, ho4⟩ := hWI.yes (hall 3 (by decide))
              clear hWI hall noOutX
              have Z1 := Lib.hid (rd_just HR5.out HBq5.out (by decide) hnq ho4)
              have Z2 := Lib.hid (only_just HO5.out ho4 (by omega))
              have y0 := hB4.cell 0
              have y1 := hB4.cell 1
              have y2 := hB4.cell 2
              have y3 := hB4.cell 3
              have y4 := hB4.cell 4
              have y5 := hB4.cell 5
              have y6 := hB4.cell 6
              have y7 := hB4.cell 7
              have y8 := hB4.cell 8
              have y9 := hB4.cell 9
              simp only [List.getElem?_toArray, List.getElem?_cons_zero, List.getElem?_cons_succ] at y0 y1 y2 y3 y4 y5 y6 y7 y8 y9
              clear hB4 ho4
              simp only [putV, List.foldl_cons, List.foldl_nil, List.setIfInBounds_toArray, List.set_cons_zero, List.set_cons_succ]
              go_wp2
              refine bodyPost_ret (v := .tuple #[.slice none 0 0, spV k o wd 0 0 (.slice none 0 0) 0 0 (.slice none 0 0) (.slice none 0 0), iv 11]) ?_ rfl ?_
              · simp [results, Tryz.f44, go_sem, y0, y1, y2, y3, y4, y5, y6, y7, y8, y9]
              refine .inl ⟨_, _, 11, _, rfl, rfl, (spC_one _ _ _ _ _ _ _ _ _ _ _ _ _ _ _ _), by decide, Z1.out, Z2.out, fun k' o' wd' lp ls cs m ro ps ws xs a' ⟨a1, _, h1, h2, h3, _⟩ => ?_⟩
              obtain ⟨rfl, rfl⟩ := cd_det h1 HCk.out
              obtain ⟨rfl, rfl⟩ := ws_det h2 HWk.out
              rw [Hn.out, Int.toNat_natCast, Hdp.out] at h3
              exact HLe.out h3
end Go.Proofs.YteklfkpeaadinaaGreatDoor.S
