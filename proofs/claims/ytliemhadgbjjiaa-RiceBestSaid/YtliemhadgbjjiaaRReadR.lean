/-
  Read.
-/
import Derived.Test.YtliemhadgbjjiaaRBlock
namespace Go.Proofs.Ytliemhadgbjjiaa
open Go.RowKit

/-- a block can be read -/
def Parse (bs : List Nat) (a b s m o : Nat) (rs : List (Int × Int × List Int)) (a' : Nat) : Prop :=
  HdOk bs a b s m o ∧ RBk bs m (fun k => frm (b / 2 ^ o) s (k + 1) - frm (b / 2 ^ o) s k) (List.range (2 ^ o)) (a + 6) rs a'
/-- what Read leaves of a block that may be -/
def ReadPost (w : World) (r : Nat) (v : Value) (bs : List Nat) (a b s : Nat) (e : Ending) (w' : World) : Prop :=
  (∃ E : Int, e = .returned (.tuple #[.slice none 0 0, plan0, iv E]) ∧ (E = 10 ∨ E = 11 ∨ E = 12 ∨ E = 13) ∧ Rd w' r v bs a ∧ Only (Just r) w w' ∧ ∀ m o rs a', ¬ Parse bs a b s m o rs a') ∨
  (∃ (m o gp gb g : Nat) (rs : List (Int × Int × List Int)) (a' : Nat), e = .returned (.tuple #[.slice (some ⟨g, 0, none⟩) (b - s) (b - s), planV m o (.slice (some ⟨gp, 0, none⟩) (2 ^ o) (2 ^ o)) (.slice (some ⟨gb, 0, none⟩) (2 ^ o) (2 ^ o)), iv 0]) ∧
    Parse bs a b s m o rs a' ∧
    Box w' gp 3 ((setAll (List.replicate (2 ^ o) 0) (List.range (2 ^ o)) (rs.map (·.1))).map iv).toArray ∧ Box w' gb 3 ((setAll (List.replicate (2 ^ o) 0) (List.range (2 ^ o)) (rs.map (·.2.1))).map iv).toArray ∧
    Box w' g 3 ((layAll (b / 2 ^ o) s (List.replicate (b - s) 0) (List.range (2 ^ o)) (rs.map (·.2.2))).map iv).toArray ∧ Rd w' r v bs a' ∧ Only (Just r) w w')

set_option maxHeartbeats 2000000 in
theorem read_arg {w : World} {r : Nat} {v : Value} {bs : List Nat} {a : Nat} (hR : Rd w r v bs a) (b s : Int) (h : ckB b s ≠ 0) :
    Calls Try.prog 23 #[.pointer (some ⟨r, 0, none⟩), iv b, iv s] w fun e w' => e = .returned (.tuple #[.slice none 0 0, plan0, iv 1]) ∧ Rd w' r v bs a ∧ Only (Just r) w w' := by
  have hrw := hR.mem
  obtain ⟨Wa, hWa⟩ : ∃ Wa, w.alloc (.cells #[Value.int .i64 0, Value.int .i64 0, .slice none 0 0, .slice none 0 0] 24) = Wa := ⟨_, rfl⟩
  have a0 := (Only.refl Nix w).alloc (.cells #[Value.int .i64 0, Value.int .i64 0, .slice none 0 0, .slice none 0 0] 24)
  have B0 := Lib.hid (Box.new w 24 #[Value.int .i64 0, Value.int .i64 0, .slice none 0 0, .slice none 0 0])
  rw [hWa] at a0 B0
  have h1b : ckB b s = 1 := by
    unfold ckB at h ⊢
    split
    · rfl
    · rename_i hh; rw [if_neg hh] at h; exact absurd rfl h
  have HC := Lib.hid (checkBlock_any Wa b s)
  rw [h1b] at HC
  have d0 := B0.out.cell 0
  have d1 := B0.out.cell 1
  have d2 := B0.out.cell 2
  have d3 := B0.out.cell 3
  simp only [List.getElem?_toArray, List.getElem?_cons_zero, List.getElem?_cons_succ] at d0 d1 d2 d3
  have f0 := B0.out.frozen 0
  have f1 := B0.out.frozen 1
  have f2 := B0.out.frozen 2
  have f3 := B0.out.frozen 3
  have y := plan_put B0.out (iv 0) (iv 0) (.slice none 0 0) (.slice none 0 0)
  have y0 := y.cell 0
  have y1 := y.cell 1
  have y2 := y.cell 2
  have y3 := y.cell 3
  simp only [List.getElem?_toArray, List.getElem?_cons_zero, List.getElem?_cons_succ] at y0 y1 y2 y3
  have Z1 := Lib.hid (plan_rd B0.out (hR.nix a0) (by omega) (iv 0) (iv 0) (.slice none 0 0) (.slice none 0 0))
  have Z2 := Lib.hid (plan_only (a0.nix (F := Just r)) (.inr (Nat.le_refl _)) (iv 0) (iv 0) (.slice none 0 0) (.slice none 0 0))
  clear y hR a0 h h1b
  go_enter Try.func23, Try.ntmps23
  go_wp2_with fail
  refine (HC.out).mono ?_
  rintro e w1 ⟨rfl, rfl⟩
  go_wp2
  refine bodyPost_ret (v := .tuple #[.slice none 0 0, plan0, iv 1]) ?_ rfl ?_
  · simp [results, Try.f23, go_sem, y0, y1, y2, y3]
  exact ⟨rfl, Z1.out, Z2.out⟩

set_option maxRecDepth 100000 in
set_option maxHeartbeats 2000000 in
theorem read_any {w : World} {r : Nat} {v : Value} {bs : List Nat} {a : Nat} (hR : Rd w r v bs a) (b s : Nat) (h : ckB b s = 0) :
    Calls Try.prog 23 #[.pointer (some ⟨r, 0, none⟩), iv b, iv s] w fun e w' => ReadPost w r v bs a b s e w' := by
  obtain ⟨hb1, hb2, hs1, hs2⟩ := ckB_zero h
  have hrw := hR.mem
  obtain ⟨Wa, hWa⟩ : ∃ Wa, w.alloc (.cells #[Value.int .i64 0, Value.int .i64 0, .slice none 0 0, .slice none 0 0] 24) = Wa := ⟨_, rfl⟩
  have a0 := (Only.refl Nix w).alloc (.cells #[Value.int .i64 0, Value.int .i64 0, .slice none 0 0, .slice none 0 0] 24)
  have B0 := Lib.hid (Box.new w 24 #[Value.int .i64 0, Value.int .i64 0, .slice none 0 0, .slice none 0 0])
  rw [hWa] at a0 B0
  have HC := Lib.hid (checkBlock_any Wa b s)
  rw [h] at HC
  have hR0 := hR.nix a0
  have HAt := Lib.hid (at_any r a Wa hR0.cell0)
  have HBl := Lib.hid (readBlock_any hR0 b s (by omega) (by omega))
  have HA0 := Lib.hid a0
  have hal := hR.le
  clear hR0 hR a0 h
  go_enter Try.func23, Try.ntmps23
  go_wp2_with fail
  refine (HC.out).mono ?_
  rintro e w1 ⟨rfl, rfl⟩
  go_wp2_with fail
  refine (HAt.out).mono ?_
  rintro e w1 ⟨rfl, rfl⟩
  go_wp2_with fail
  refine (HBl.out).mono ?_
  rintro e w1 (⟨m, o, A, A', n, n', c, c', E, a', rfl, hE, hR1, ho1, hno⟩ | ⟨m, o, gp, gb, g, rs, a', rfl, hok, hrb, bp, bb, bg, hR1, ho1⟩)
  · have B1 := Lib.hid (B0.out.only ho1 (fun e => by have : w.heap.size = r := e; omega))
    have o2 := (Only.refl Nix w1).alloc (.cells #[iv m, iv o, .slice A n c, .slice A' n' c'] 24)
    have HSk := Lib.hid (seek_any (hR1.nix o2) (a : Int))
    have eA : seekA bs a' (a : Int) = a := by unfold seekA; rw [if_neg (by omega), Int.toNat_natCast]
    have eE : seekE bs (a : Int) = 0 := by unfold seekE; rw [if_neg (by omega)]
    rw [eA, eE] at HSk
    have B2 := Lib.hid (B1.out.alloc (.cells #[iv m, iv o, .slice A n c, .slice A' n' c'] 24))
    have HO2 := Lib.hid (((HA0.out.nix (F := Just r)).trans ho1).alloc (.cells #[iv m, iv o, .slice A n c, .slice A' n' c'] 24))
    have hE0 : E ≠ 0 := by omega
    have hEb : (E != 0) = true := by simpa using hE0
    have HE := Lib.hid hE
    have Hno := Lib.hid hno
    clear hE hno hR1 ho1 o2 eA eE B1
    go_wp2_with fail
    refine (HSk.out).mono ?_
    rintro e w3 ⟨rfl, hR3, ho3⟩
    have B3 := Lib.hid (B2.out.only ho3 (fun e => by have : w.heap.size = r := e; omega))
    have d0 := B3.out.cell 0
    have d1 := B3.out.cell 1
    have d2 := B3.out.cell 2
    have d3 := B3.out.cell 3
    simp only [List.getElem?_toArray, List.getElem?_cons_zero, List.getElem?_cons_succ] at d0 d1 d2 d3
    have f0 := B3.out.frozen 0
    have f1 := B3.out.frozen 1
    have f2 := B3.out.frozen 2
    have f3 := B3.out.frozen 3
    have y := plan_put B3.out (iv 0) (iv 0) (.slice none 0 0) (.slice none 0 0)
    have y0 := y.cell 0
    have y1 := y.cell 1
    have y2 := y.cell 2
    have y3 := y.cell 3
    simp only [List.getElem?_toArray, List.getElem?_cons_zero, List.getElem?_cons_succ] at y0 y1 y2 y3
    have Z1 := Lib.hid (plan_rd B3.out hR3 (by omega) (iv 0) (iv 0) (.slice none 0 0) (.slice none 0 0))
    have Z2 := Lib.hid (plan_only (HO2.out.trans ho3) (.inr (Nat.le_refl _)) (iv 0) (iv 0) (.slice none 0 0) (.slice none 0 0))
    clear y hR3 ho3 B2 HSk
    go_wp2
    refine bodyPost_ret (v := .tuple #[.slice none 0 0, plan0, iv E]) ?_ rfl ?_
    · simp [results, Try.f23, go_sem, y0, y1, y2, y3]
    exact .inl ⟨E, rfl, HE.out, Z1.out, Z2.out, fun m' o' rs' a2 hp => Hno.out m' o' rs' a2 hp.1 hp.2⟩
  · have B1 := Lib.hid (B0.out.only ho1 (fun e => by have : w.heap.size = r := e; omega))
    obtain ⟨P, hP⟩ : ∃ P, 2 ^ o = P := ⟨_, rfl⟩
    rw [hP]
    have o2 := (Only.refl Nix w1).alloc (.cells #[iv m, iv o, .slice (some ⟨gp, 0, none⟩) P P, .slice (some ⟨gb, 0, none⟩) P P] 24)
    have x12 := Lib.hid (Box.new w1 24 #[iv m, iv o, .slice (some ⟨gp, 0, none⟩) P P, .slice (some ⟨gb, 0, none⟩) P P])
    have B2 := Lib.hid (B1.out.alloc (.cells #[iv m, iv o, .slice (some ⟨gp, 0, none⟩) P P, .slice (some ⟨gb, 0, none⟩) P P] 24))
    have HO2 := Lib.hid (((HA0.out.nix (F := Just r)).trans ho1).alloc (.cells #[iv m, iv o, .slice (some ⟨gp, 0, none⟩) P P, .slice (some ⟨gb, 0, none⟩) P P] 24))
    obtain ⟨V, hV⟩ : ∃ V, w1.alloc (.cells #[iv m, iv o, .slice (some ⟨gp, 0, none⟩) P P, .slice (some ⟨gb, 0, none⟩) P P] 24) = V := ⟨_, rfl⟩
    rw [hV] at o2 x12 B2 HO2
    have HR2 := Lib.hid (hR1.nix o2)
    have BP := Lib.hid (bp.only o2 (fun e => e))
    have BB := Lib.hid (bb.only o2 (fun e => e))
    have BG := Lib.hid (bg.only o2 (fun e => e))
    have hlt := B1.out.lt
    have d0 := B2.out.cell 0
    have d1 := B2.out.cell 1
    have d2 := B2.out.cell 2
    have d3 := B2.out.cell 3
    have x0 := x12.out.cell 0
    have x1 := x12.out.cell 1
    have x2 := x12.out.cell 2
    have x3 := x12.out.cell 3
    simp only [List.getElem?_toArray, List.getElem?_cons_zero, List.getElem?_cons_succ] at d0 d1 d2 d3 x0 x1 x2 x3
    have f0 := B2.out.frozen 0
    have f1 := B2.out.frozen 1
    have f2 := B2.out.frozen 2
    have f3 := B2.out.frozen 3
    have Hok := Lib.hid hok
    have Hrb := Lib.hid hrb
    clear hok hrb hR1 ho1 bp bb bg o2 B1 HBl HAt HC
    have n1 : gp ≠ w.heap.size := Box.type_ne BP.out B2.out (by decide)
    have n2 : gb ≠ w.heap.size := Box.type_ne BB.out B2.out (by decide)
    have n3 : g ≠ w.heap.size := Box.type_ne BG.out B2.out (by decide)
    have y := (plan_put B2.out (iv m) (iv o) (.slice (some ⟨gp, 0, none⟩) P P) (.slice (some ⟨gb, 0, none⟩) P P)).drew
    have y0 := y.cell 0
    have y1 := y.cell 1
    have y2 := y.cell 2
    have y3 := y.cell 3
    simp only [List.getElem?_toArray, List.getElem?_cons_zero, List.getElem?_cons_succ] at y0 y1 y2 y3
    have Z1 := Lib.hid ((plan_rd B2.out HR2.out (by omega) (iv m) (iv o) (.slice (some ⟨gp, 0, none⟩) P P) (.slice (some ⟨gb, 0, none⟩) P P)).nix (Only.refl Nix _ |>.drew))
    have Z2 := Lib.hid ((plan_only HO2.out (.inr (Nat.le_refl _)) (iv m) (iv o) (.slice (some ⟨gp, 0, none⟩) P P) (.slice (some ⟨gb, 0, none⟩) P P)).drew)
    have Z3 := Lib.hid ((plan_off BP.out n1 (iv m) (iv o) (.slice (some ⟨gp, 0, none⟩) P P) (.slice (some ⟨gb, 0, none⟩) P P)).drew)
    have Z4 := Lib.hid ((plan_off BB.out n2 (iv m) (iv o) (.slice (some ⟨gp, 0, none⟩) P P) (.slice (some ⟨gb, 0, none⟩) P P)).drew)
    have Z5 := Lib.hid ((plan_off BG.out n3 (iv m) (iv o) (.slice (some ⟨gp, 0, none⟩) P P) (.slice (some ⟨gb, 0, none⟩) P P)).drew)
    have HP := Lib.hid hP
    clear y hP n1 n2 n3
    go_wp2
    go_region
    go_wp2
    refine bodyPost_ret (v := .tuple #[.slice (some ⟨g, 0, none⟩) (b - s) (b - s), planV m o (.slice (some ⟨gp, 0, none⟩) P P) (.slice (some ⟨gb, 0, none⟩) P P), iv 0]) ?_ rfl ?_
    · simp [results, Try.f23, go_sem, y0, y1, y2, y3]
    refine .inr ⟨m, o, gp, gb, g, rs, a', by rw [HP.out], ⟨Hok.out, Hrb.out⟩, Z3.out, Z4.out, Z5.out, Z1.out, Z2.out⟩
end Go.Proofs.Ytliemhadgbjjiaa
