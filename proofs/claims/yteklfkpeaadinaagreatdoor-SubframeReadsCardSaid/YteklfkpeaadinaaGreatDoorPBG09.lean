/-
  Read.
-/
import Derived.Test.YteklfkpeaadinaaGreatDoorPBG08
import Derived.Deep.AppendLies
import Derived.ProofKit
import Derived.OpenShut
import Derived.Lib.SmallJoins
import Derived.Deep.Slices
import Derived.SizedLaws
namespace Go.Proofs.YteklfkpeaadinaaGreatDoor
open Go.RowKit

/-- a block can be read -/
def Parse (bs : List Nat) (a b s m o : Nat) (rs : List (Int × Int × List Int)) (a' : Nat) : Prop :=
  HdOk bs a b s m o ∧ RBk bs m (fun k => frm (b / 2 ^ o) s (k + 1) - frm (b / 2 ^ o) s k) (List.range (2 ^ o)) (a + 6) rs a'
/-- what Read leaves of a block that may be -/
def ReadPost (w : World) (r : Nat) (v : Value) (bs : List Nat) (a b s : Nat) (e : Ending) (w' : World) : Prop :=
  (∃ E : Int, e = .returned (.tuple #[.slice none 0 0, plan0, iv E]) ∧ (E = 10 ∨ E = 11 ∨ E = 12 ∨ E = 13) ∧ Rd w' r v bs a ∧ Only (Just r) w w' ∧ ∀ m o rs a', ¬ Parse bs a b s m o rs a') ∨
  (∃ (m o gp gb g : Nat) (rs : List (Int × Int × List Int)) (a' : Nat), e = .returned (.tuple #[.slice (some ⟨g, 0, none⟩) (b - s) (b - s), planV m o (.slice (some ⟨gp, 0, none⟩) (2 ^ o) (2 ^ o)) (.slice (some ⟨gb, 0, none⟩) (2 ^ o) (2 ^ o)), iv 0]) ∧
    Parse bs a b s m o rs a' ∧
    Box w' gp 3 ((setAll (List.replicate (2 ^ o) 0) (List.range (2 ^ o)) (rs.map (·.1))).map iv).toArray ∧ Box w' gb 3 ((setAll (List.replicate (2 ^ o) 0) (List.range (2 ^ o)) (rs.map (·.2.1))).map iv).toArray ∧
    Box w' g 3 ((layAll (b / 2 ^ o) s (List.replicate (b - s) 0) (List.range (2 ^ o)) (rs.map (·.2.2))).map iv).toArray ∧ Rd w' r v bs a' ∧ Only (Just r) w w')
set_option maxRecDepth 100000 in
set_option maxHeartbeats 2000000 in
theorem read_any {w : World} {r : Nat} {v : Value} {bs : List Nat} {a : Nat} (hR : Rd w r v bs a) (b s : Nat) (h : ckB b s = 0) :
    Calls Tryz.prog 83 #[.pointer (some ⟨r, 0, none⟩), iv b, iv s] w fun e w' => ReadPost w r v bs a b s e w' := by
  obtain ⟨hb1, hb2, hs1, hs2⟩ := ckB_zero h
  have hrw := hR.mem
  obtain ⟨Wa, hWa⟩ : ∃ Wa, w.alloc (.cells #[Value.int .i64 0, Value.int .i64 0, .slice none 0 0, .slice none 0 0] 26) = Wa := ⟨_, rfl⟩
  have a0 := (Only.refl Nix w).alloc (.cells #[Value.int .i64 0, Value.int .i64 0, .slice none 0 0, .slice none 0 0] 26)
  have B0 := Lib.hid (Box.new w 26 #[Value.int .i64 0, Value.int .i64 0, .slice none 0 0, .slice none 0 0])
  rw [hWa] at a0 B0
  have HC := Lib.hid (checkBlock_any Wa b s)
  rw [h] at HC
  have hR0 := hR.nix a0
  have HAt := Lib.hid (at_any r a Wa hR0.cell0)
  have HBl := Lib.hid (readBlock_any hR0 b s (by omega) (by omega))
  have HA0 := Lib.hid a0
  have hal := hR.le
  clear hR0 hR a0 h
  go_enter Tryz.func83, Tryz.ntmps83
  go_wp2_with fail
  refine (HC.out).mono ?_
  rintro e w1 ⟨rfl, rfl⟩
  go_wp2_with fail
  refine (HAt.out).mono ?_
  rintro e w1 ⟨rfl, rfl⟩
  go_wp2_with fail
  refine (HBl.out).mono ?_
  rintro e w1 (⟨m, o, A, A', n, n', c, c', E, a', rfl, hE, hR1, ho1, hno⟩ | ⟨m, o, gp, gb, g, rs, a', rfl, hok, hrb, bp, bb, bg, hR1, ho1⟩)
  · have B1 := Lib.hid (B0.out.only ho1 (fun e => by have : w.heap.size = r := e; omega))
    have o2 := (Only.refl Nix w1).alloc (.cells #[iv m, iv o, .slice A n c, .slice A' n' c'] 26)
    have HSk := Lib.hid (seek_any (hR1.nix o2) (a : Int))
    have eA : seekA bs a' (a : Int) = a := by unfold seekA; rw [if_neg (by omega), Int.toNat_natCast]
    have eE : seekE bs (a : Int) = 0 := by unfold seekE; rw [if_neg (by omega)]
    rw [eA, eE] at HSk
    have B2 := Lib.hid (B1.out.alloc (.cells #[iv m, iv o, .slice A n c, .slice A' n' c'] 26))
    have HO2 := Lib.hid (((HA0.out.nix (F := Just r)).trans ho1).alloc (.cells #[iv m, iv o, .slice A n c, .slice A' n' c'] 26))
    have hE0 : E ≠ 0 := by omega
    have hEb : (E != 0) = true := by simpa using hE0
    have HE := Lib.hid hE
    have Hno := Lib.hid hno
    clear hE hno hR1 ho1 o2 eA eE B1
    go_wp2_with fail
    refine (HSk.out).mono ?_
    rintro e w3 ⟨rfl, hR3, ho3⟩
    have B3 := Lib.hid (B2.out.only ho3 (fun e => by have : w.heap.size = r := e; omega))
    have d0 := B3.out.cell 0
    have d1 := B3.out.cell 1
    have d2 := B3.out.cell 2
    have d3 := B3.out.cell 3
    simp only [List.getElem?_toArray, List.getElem?_cons_zero, List.getElem?_cons_succ] at d0 d1 d2 d3
    have f0 := B3.out.frozen 0
    have f1 := B3.out.frozen 1
    have f2 := B3.out.frozen 2
    have f3 := B3.out.frozen 3
    have y := plan_put B3.out (iv 0) (iv 0) (.slice none 0 0) (.slice none 0 0)
    have y0 := y.cell 0
    have y1 := y.cell 1
    have y2 := y.cell 2
    have y3 := y.cell 3
    simp only [List.getElem?_toArray, List.getElem?_cons_zero, List.getElem?_cons_succ] at y0 y1 y2 y3
    have Z1 := Lib.hid (plan_rd B3.out hR3 (by omega) (iv 0) (iv 0) (.slice none 0 0) (.slice none 0 0))
    have Z2 := Lib.hid (plan_only (HO2.out.trans ho3) (.inr (Nat.le_refl _)) (iv 0) (iv 0) (.slice none 0 0) (.slice none 0 0))
    clear y hR3 ho3 B2 HSk
    go_wp2
    refine bodyPost_ret (v := .tuple #[.slice none 0 0, plan0, iv E]) ?_ rfl ?_
    · simp [results, Tryz.f83, go_sem, y0, y1, y2, y3]
    exact .inl ⟨E, rfl, HE.out, Z1.out, Z2.out, fun m' o' rs' a2 hp => Hno.out m' o' rs' a2 hp.1 hp.2⟩
  · have B1 := Lib.hid (B0.out.only ho1 (fun e => by have : w.heap.size = r := e; omega))
    obtain ⟨P, hP⟩ : ∃ P, 2 ^ o = P := ⟨_, rfl⟩
    rw [hP]
    have o2 := (Only.refl Nix w1).alloc (.cells #[iv m, iv o, .slice (some ⟨gp, 0, none⟩) P P, .slice (some ⟨gb, 0, none⟩) P P] 26)
    have x12 := Lib.hid (Box.new w1 26 #[iv m, iv o, .slice (some ⟨gp, 0, none⟩) P P, .slice (some ⟨gb, 0, none⟩) P P])
    have B2 := Lib.hid (B1.out.alloc (.cells #[iv m, iv o, .slice (some ⟨gp, 0, none⟩) P P, .slice (some ⟨gb, 0, none⟩) P P] 26))
    have HO2 := Lib.hid (((HA0.out.nix (F := Just r)).trans ho1).alloc (.cells #[iv m, iv o, .slice (some ⟨gp, 0, none⟩) P P, .slice (some ⟨gb, 0, none⟩) P P] 26))
    obtain ⟨V, hV⟩ : ∃ V, w1.alloc (.cells #[iv m, iv o, .slice (some ⟨gp, 0, none⟩) P P, .slice (some ⟨gb, 0, none⟩) P P] 26) = V := ⟨_, rfl⟩
    rw [hV] at o2 x12 B2 HO2
    have HR2 := Lib.hid (hR1.nix o2)
    have BP := Lib.hid (bp.only o2 (fun e => e))
    have BB := Lib.hid (bb.only o2 (fun e => e))
    have BG := Lib.hid (bg.only o2 (fun e => e))
    have hlt := B1.out.lt
    have d0 := B2.out.cell 0
    have d1 := B2.out.cell 1
    have d2 := B2.out.cell 2
    have d3 := B2.out.cell 3
    have x0 := x12.out.cell 0
    have x1 := x12.out.cell 1
    have x2 := x12.out.cell 2
    have x3 := x12.out.cell 3
    simp only [List.getElem?_toArray, List.getElem?_cons_zero, List.getElem?_cons_succ] at d0 d1 d2 d3 x0 x1 x2 x3
    have f0 := B2.out.frozen 0
    have f1 := B2.out.frozen 1
    have f2 := B2.out.frozen 2
    have f3 := B2.out.frozen 3
    have Hok := Lib.hid hok
    have Hrb := Lib.hid hrb
    clear hok hrb hR1 ho1 bp bb bg o2 B1 HBl HAt HC
    have n1 : gp ≠ w.heap.size := Box.type_ne BP.out B2.out (by decide)
    have n2 : gb ≠ w.heap.size := Box.type_ne BB.out B2.out (by decide)
    have n3 : g ≠ w.heap.size := Box.type_ne BG.out B2.out (by decide)
    have y := (plan_put B2.out (iv m) (iv o) (.slice (some ⟨gp, 0, none⟩) P P) (.slice (some ⟨gb, 0, none⟩) P P)).drew
    have y0 := y.cell 0
    have y1 := y.cell 1
    have y2 := y.cell 2
    have y3 := y.cell 3
    simp only [List.getElem?_toArray, List.getElem?_cons_zero, List.getElem?_cons_succ] at y0 y1 y2 y3
    have Z1 := Lib.hid ((plan_rd B2.out HR2.out (by omega) (iv m) (iv o) (.slice (some ⟨gp, 0, none⟩) P P) (.slice (some ⟨gb, 0, none⟩) P P)).nix (Only.refl Nix _ |>.drew))
    have Z2 := Lib.hid ((plan_only HO2.out (.inr (Nat.le_refl _)) (iv m) (iv o) (.slice (some ⟨gp, 0, none⟩) P P) (.slice (some ⟨gb, 0, none⟩) P P)).drew)
    have Z3 := Lib.hid ((plan_off BP.out n1 (iv m) (iv o) (.slice (some ⟨gp, 0, none⟩) P P) (.slice (some ⟨gb, 0, none⟩) P P)).drew)
    have Z4 := Lib.hid ((plan_off BB.out n2 (iv m) (iv o) (.slice (some ⟨gp, 0, none⟩) P P) (.slice (some ⟨gb, 0, none⟩) P P)).drew)
    have Z5 := Lib.hid ((plan_off BG.out n3 (iv m) (iv o) (.slice (some ⟨gp, 0, none⟩) P P) (.slice (some ⟨gb, 0, none⟩) P P)).drew)
    have HP := Lib.hid hP
    clear y hP n1 n2 n3
    go_wp2
    go_region
    go_wp2
    refine bodyPost_ret (v := .tuple #[.slice (some ⟨g, 0, none⟩) (b - s) (b - s), planV m o (.slice (some ⟨gp, 0, none⟩) P P) (.slice (some ⟨gb, 0, none⟩) P P), iv 0]) ?_ rfl ?_
    · simp [results, Tryz.f83, go_sem, y0, y1, y2, y3]
    refine .inr ⟨m, o, gp, gb, g, rs, a', by rw [HP.out], ⟨Hok.out, Hrb.out⟩, Z3.out, Z4.out, Z5.out, Z1.out, Z2.out⟩
end Go.Proofs.YteklfkpeaadinaaGreatDoor
namespace Go.Proofs.YteklfkpeaadinaaGreatDoor
open Go.RowKit

theorem setAll_range (vs : List Int) : ∀ (n : Nat) (xs : List Int), n ≤ vs.length → vs.length ≤ xs.length → setAll xs (List.range n) (vs.take n) = vs.take n ++ xs.drop n
  | 0, xs, _, _ => by simp [setAll]
  | n + 1, xs, h, hx => by
    have ih := setAll_range vs n xs (by omega) hx
    rw [List.range_succ, List.take_succ_eq_append_getElem h, setAll_snoc _ _ _ _ _ (by simp; omega), ih]
    have h1 : xs.drop n = xs[n] :: xs.drop (n + 1) := List.drop_eq_getElem_cons (by omega)
    have hl : (vs.take n).length = n := by simp; omega
    rw [List.set_append_right _ _ (by omega), hl, Nat.sub_self, h1, List.set_cons_zero, List.append_assoc]
    rfl
theorem setAll_all (vs xs : List Int) (n : Nat) (h : vs.length = n) (hx : xs.length = n) : setAll xs (List.range n) vs = vs := by
  have := setAll_range vs n xs (by omega) (by omega)
  rw [List.take_of_length_le (by omega), List.drop_of_length_le (by omega), List.append_nil] at this
  exact this
theorem layAll_range (S s P : Nat) (hS : s < S) (l xs : List Int) (hn : P * S = l.length + s) (hx : xs.length = l.length) : ∀ j, j ≤ P → layAll S s xs (List.range j) ((List.range j).map fun k => pt S s l k) = l.take (frm S s j) ++ xs.drop (frm S s j)
  | 0, _ => by simp [layAll, frm_zero]
  | j + 1, hj => by
    have ih := layAll_range S s P hS l xs hn hx j (by omega)
    have h1 := (frm_step S s j hS).1
    have h2 := frm_le S s (j + 1) P l.length hj hn
    have hl : (pt S s l j).length = frm S s (j + 1) - frm S s j := pt_len S s P l j hS hj hn
    rw [List.range_succ, List.map_append, List.map_singleton, layAll_snoc _ _ _ _ _ _ _ (by simp), ih]
    unfold putAt
    have e1 : (l.take (frm S s j) ++ xs.drop (frm S s j)).take (frm S s j) = l.take (frm S s j) := by rw [List.take_left' (by simp; omega)]
    have e2 : (l.take (frm S s j) ++ xs.drop (frm S s j)).drop (frm S s j + (pt S s l j).length) = xs.drop (frm S s (j + 1)) := by
      rw [List.drop_append, List.drop_of_length_le (by simp; omega), List.nil_append, List.drop_drop, hl, List.length_take]
      congr 1
      omega
    rw [e1, e2]
    congr 1
    unfold pt
    have e3 : frm S s (j + 1) = frm S s j + (frm S s (j + 1) - frm S s j) := by omega
    rw [e3, List.take_add, Nat.add_sub_cancel_left]
theorem layAll_all (S s P n : Nat) (hS : s < S) (l xs : List Int) (hn : P * S = n + s) (hl : l.length = n) (hx : xs.length = n) : layAll S s xs (List.range P) ((List.range P).map fun k => pt S s l k) = l := by
  subst hl
  have := layAll_range S s P hS l xs hn hx P (Nat.le_refl _)
  have hf : frm S s P = l.length := by unfold frm; omega
  rw [this, hf, List.take_length, List.drop_of_length_le (by omega), List.append_nil]
end Go.Proofs.YteklfkpeaadinaaGreatDoor
namespace Go.Proofs.YteklfkpeaadinaaGreatDoor
open Go.RowKit

theorem Src.at_ {w : World} {v : Value} {bs : List Nat} (h : Src w v bs) {k : Nat} (hk : k < bs.length) : ∃ ad c, v = .slice (some ad) bs.length c ∧ w.cell? (ad.add k) = some (byt bs[k]) := by
  rcases h.form with ⟨_, rfl⟩ | ⟨ad, c, hv, hc⟩
  · simp at hk
  · exact ⟨ad, c, hv, hc k _ (by simp [hk])⟩
theorem Src.drewN {w : World} {v : Value} {bs : List Nat} (h : Src w v bs) (n : Nat) : Src (w.drewN n) v bs := ⟨h.form, h.small⟩
theorem Src.slice {w : World} {v : Value} {bs : List Nat} (h : Src w v bs) : ∃ A c, v = .slice A bs.length c := by
  rcases h.form with ⟨rfl, rfl⟩ | ⟨ad, c, hv, hc⟩
  · exact ⟨none, 0, rfl⟩
  · exact ⟨_, _, hv⟩
theorem Src.only {F : Nat → Prop} {w w' : World} {v : Value} {bs : List Nat} (h : Src w v bs) (ho : Only F w w') (hF : ∀ i, F i → ∀ ad n c, v = .slice (some ad) n c → ad.block ≠ i) : Src w' v bs := by
  refine ⟨?_, h.small⟩
  rcases h.form with hn | ⟨ad, c, hv, hc⟩
  · exact .inl hn
  · refine .inr ⟨ad, c, hv, fun j u hu => ?_⟩
    have h1 := hc j u hu
    have hb : (ad.add j).block = ad.block := by unfold Addr.add; split <;> rfl
    have hl := World.block_lt_of_cell? w _ h1
    rw [World.cell?_of_block (w := w) (ho.block (ad.add j).block hl (fun e => hF _ e ad _ c hv hb.symm))]
    exact h1
theorem Src.nix {w w' : World} {v : Value} {bs : List Nat} (h : Src w v bs) (ho : Only Nix w w') : Src w' v bs := h.only ho (fun _ e => e.elim)
def SameRel (w : World) (n : Nat) (s5 : Value) (wr : World) : Prop := ∃ k m : Nat, k ≤ n ∧ s5 = .int .i64 (k : Int) ∧ wr = w.drewN m
set_option maxHeartbeats 400000 in
theorem same_yes {w : World} {v1 v2 : Value} {bs : List Nat} (h1 : Src w v1 bs) (h2 : Src w v2 bs) :
    Calls Tryz.prog 33 #[v1, v2] w fun e w' => e = .returned (.bool true) ∧ ∃ m, w' = w.drewN m := by
  have hsm := h1.small
  obtain ⟨A1, c1, hv1⟩ := h1.slice
  obtain ⟨A2, c2, hv2⟩ := h2.slice
  subst hv1
  subst hv2
  go_enter Tryz.func33, Tryz.ntmps33
  go_wp2
  go_loopw [5] (fun s5 wr => SameRel w bs.length s5 wr) (fun s5 _ => bs.length - (intOf s5).toNat)
  case atStart => exact ⟨0, 0, Nat.zero_le _, rfl, rfl⟩
  case round =>
    obtain ⟨k, m, hk, rfl, hwr⟩ := hrel
    have g1 := h1.drewN m
    have g2 := h2.drewN m
    rw [← hwr] at g1 g2
    have Hw := Lib.hid hwr
    clear hwr
    by_cases hlt : k < bs.length
    · obtain ⟨ad1, d1, e1, hx1⟩ := g1.at_ hlt
      obtain ⟨ad2, d2, e2, hx2⟩ := g2.at_ hlt
      injection e1 with e1 _ e1'
      injection e2 with e2 _ e2'
      subst e1 e2 e1' e2'
      unfold byt at hx1 hx2
      have hlt2 : (k : Int) < (bs.length : Int) := by omega
      generalize bs[k] = y at *
      go_wp2_with fail
      go_quiet (fail)
      go_wp2
      go_roundw
      case rel => exact ⟨k + 1, m + nq, by omega, by go_num, by rw [Hw.out, World.drewN_drewN]⟩
      case measure => simp [intOf]; omega
    · go_wp2
      go_ret
      exact ⟨rfl, m, Hw.out⟩
set_option maxHeartbeats 400000 in
theorem ints_yes {w : World} {v1 v2 : Value} {xs : List Int} (h1 : ISrc w v1 xs) (h2 : ISrc w v2 xs) :
    Calls Tryz.prog 16 #[v1, v2] w fun e w' => e = .returned (.bool true) ∧ ∃ m, w' = w.drewN m := by
  have hsm := h1.small
  obtain ⟨A1, c1, hv1⟩ := h1.slice
  obtain ⟨A2, c2, hv2⟩ := h2.slice
  subst hv1
  subst hv2
  go_enter Tryz.func16, Tryz.ntmps16
  go_wp2
  go_loopw [5] (fun s5 wr => SameRel w xs.length s5 wr) (fun s5 _ => xs.length - (intOf s5).toNat)
  case atStart => exact ⟨0, 0, Nat.zero_le _, rfl, rfl⟩
  case round =>
    obtain ⟨k, m, hk, rfl, hwr⟩ := hrel
    have g1 := h1.nix ((Only.refl Nix w).drewN m)
    have g2 := h2.nix ((Only.refl Nix w).drewN m)
    rw [← hwr] at g1 g2
    have Hw := Lib.hid hwr
    clear hwr
    by_cases hlt : k < xs.length
    · obtain ⟨ad1, e1, hx1⟩ := g1.at_ hlt
      obtain ⟨ad2, e2, hx2⟩ := g2.at_ hlt
      subst e1 e2
      have hlt2 : (k : Int) < (xs.length : Int) := by omega
      generalize xs[k] = y at *
      go_wp2_with fail
      go_quiet (fail)
      go_wp2
      go_roundw
      case rel => exact ⟨k + 1, m + nq, by omega, by go_num, by rw [Hw.out, World.drewN_drewN]⟩
      case measure => simp [intOf]; omega
    · go_wp2
      go_ret
      exact ⟨rfl, m, Hw.out⟩
end Go.Proofs.YteklfkpeaadinaaGreatDoor
namespace Go.Proofs.YteklfkpeaadinaaGreatDoor
open Go.RowKit Go.Shelf
attribute [local go_sem] Oper.semAt_some
theorem isrc_lit (w : World) (xs : List Int) (hn : xs.length ≤ 100) (hf : ∀ x ∈ xs, -9223372036854775808 ≤ x ∧ x ≤ 9223372036854775807) : ISrc (w.alloc (.cells (xs.map iv).toArray 3)) (.slice (some ⟨w.heap.size, 0, none⟩) xs.length xs.length) xs :=
  ISrc.of_box (Box.new w 3 (xs.map iv).toArray) rfl (Nat.le_refl _) (by omega) hf
end Go.Proofs.YteklfkpeaadinaaGreatDoor
namespace Go.Proofs.YteklfkpeaadinaaGreatDoor
open Go.RowKit

end Go.Proofs.YteklfkpeaadinaaGreatDoor
namespace Go.Proofs.YteklfkpeaadinaaGreatDoor
open Go.RowKit

theorem Parse.det {bs : List Nat} {a b s m o m' o' : Nat} {rs rs' : List (Int × Int × List Int)} {a1 a2 : Nat} (h : Parse bs a b s m o rs a1) (k : Parse bs a b s m' o' rs' a2) : m = m' ∧ o = o' ∧ rs = rs' ∧ a1 = a2 := by
  obtain ⟨h1, h2⟩ := h
  obtain ⟨k1, k2⟩ := k
  obtain ⟨_, e1, _, _, e2, _⟩ := h1
  obtain ⟨_, e3, _, _, e4, _⟩ := k1
  obtain rfl : m = m' := by rw [e1, e3]
  obtain rfl : o = o' := by rw [e2, e4]
  obtain ⟨e5, e6⟩ := h2.det k2
  exact ⟨rfl, rfl, e5, e6⟩
end Go.Proofs.YteklfkpeaadinaaGreatDoor
namespace Go.Proofs.YteklfkpeaadinaaGreatDoor
open Go.ChangeShapes Go.WideShapes Go.ChangeAt Go.RowKit Go.Joins

end Go.Proofs.YteklfkpeaadinaaGreatDoor
