/-
  Read.
-/
import Derived.Test.YteklfkpeaadinaaGreatDoorPAG08
import Derived.Deep.AppendLies
import Derived.ProofKit
import Derived.OpenShut
import Derived.Lib.SmallJoins
import Derived.Deep.Slices
import Derived.SizedLaws
namespace Go.Proofs.YteklfkpeaadinaaGreatDoor
open Go.RowKit

/-- a block can be read -/
def Parse (bs : List Nat) (a b s m o : Nat) (rs : List (Int × Int × List Int)) (a' : Nat) : Prop :=
  HdOk bs a b s m o ∧ RBk bs m (fun k => frm (b / 2 ^ o) s (k + 1) - frm (b / 2 ^ o) s k) (List.range (2 ^ o)) (a + 6) rs a'
/-- what Read leaves of a block that may be -/
def ReadPost (w : World) (r : Nat) (v : Value) (bs : List Nat) (a b s : Nat) (e : Ending) (w' : World) : Prop :=
  (∃ E : Int, e = .returned (.tuple #[.slice none 0 0, plan0, iv E]) ∧ (E = 10 ∨ E = 11 ∨ E = 12 ∨ E = 13) ∧ Rd w' r v bs a ∧ Only (Just r) w w' ∧ ∀ m o rs a', ¬ Parse bs a b s m o rs a') ∨
  (∃ (m o gp gb g : Nat) (rs : List (Int × Int × List Int)) (a' : Nat), e = .returned (.tuple #[.slice (some ⟨g, 0, none⟩) (b - s) (b - s), planV m o (.slice (some ⟨gp, 0, none⟩) (2 ^ o) (2 ^ o)) (.slice (some ⟨gb, 0, none⟩) (2 ^ o) (2 ^ o)), iv 0]) ∧
    Parse bs a b s m o rs a' ∧
    Box w' gp 3 ((setAll (List.replicate (2 ^ o) 0) (List.range (2 ^ o)) (rs.map (·.1))).map iv).toArray ∧ Box w' gb 3 ((setAll (List.replicate (2 ^ o) 0) (List.range (2 ^ o)) (rs.map (·.2.1))).map iv).toArray ∧
    Box w' g 3 ((layAll (b / 2 ^ o) s (List.replicate (b - s) 0) (List.range (2 ^ o)) (rs.map (·.2.2))).map iv).toArray ∧ Rd w' r v bs a' ∧ Only (Just r) w w')
set_option maxRecDepth 100000 in
set_option maxHeartbeats 2000000 in
theorem read_any {w : World} {r : Nat} {v : Value} {bs : List Nat} {a : Nat} (hR : Rd w r v bs a) (b s : Nat) (h : ckB b s = 0) :
    Calls Tryz.prog 83 #[.pointer (some ⟨r, 0, none⟩), iv b, iv s] w fun e w' => ReadPost w r v bs a b s e w' := by
  obtain ⟨hb1, hb2, hs1, hs2⟩ := ckB_zero h
  have hrw := hR.mem
  obtain ⟨Wa, hWa⟩ : ∃ Wa, w.alloc (.cells #[Value.int .i64 0, Value.int .i64 0, .slice none 0 0, .slice none 0 0] 26) = Wa := ⟨_, rfl⟩
  have a0 := (Only.refl Nix w).alloc (.cells #[Value.int .i64 0, Value.int .i64 0, .slice none 0 0, .slice none 0 0] 26)
  have B0 := Lib.hid (Box.new w 26 #[Value.int .i64 0, Value.int .i64 0, .slice none 0 0, .slice none 0 0])
  rw [hWa] at a0 B0
  have HC := Lib.hid (checkBlock_any Wa b s)
  rw [h] at HC
  have hR0 := hR.nix a0
  have HAt := Lib.hid (at_any r a Wa hR0.cell0)
  have HBl := Lib.hid (readBlock_any hR0 b s (by omega) (by omega))
  have HA0 := Lib.hid a0
  have hal := hR.le
  clear hR0 hR a0 h
  go_enter Tryz.func83, Tryz.ntmps83
  go_wp2_with fail
  refine (HC.out).mono ?_
  rintro e w1 ⟨rfl, rfl⟩
  go_wp2_with fail
  refine (HAt.out).mono ?_
  rintro e w1 ⟨rfl, rfl⟩
  go_wp2_with fail
  refine (HBl.out).mono ?_
  rintro e w1 (⟨m, o, A, A', n, n', c, c', E, a', rfl, hE, hR1, ho1, hno⟩ | ⟨m, o, gp, gb, g, rs, a', rfl, hok, hrb, bp, bb, bg, hR1, ho1⟩)
  · have B1 := Lib.hid (B0.out.only ho1 (fun e => by have : w.heap.size = r := e; omega))
    have o2 := (Only.refl Nix w1).alloc (.cells #[iv m, iv o, .slice A n c, .slice A' n' c'] 26)
    have HSk := Lib.hid (seek_any (hR1.nix o2) (a : Int))
    have eA : seekA bs a' (a : Int) = a := by unfold seekA; rw [if_neg (by omega), Int.toNat_natCast]
    have eE : seekE bs (a : Int) = 0 := by unfold seekE; rw [if_neg (by omega)]
    rw [eA, eE] at HSk
    have B2 := Lib.hid (B1.out.alloc (.cells #[iv m, iv o, .slice A n c, .slice A' n' c'] 26))
    have HO2 := Lib.hid (((HA0.out.nix (F := Just r)).trans ho1).alloc (.cells #[iv m, iv o, .slice A n c, .slice A' n' c'] 26))
    have hE0 : E ≠ 0 := by omega
    have hEb : (E != 0) = true := by simpa using hE0
    have HE := Lib.hid hE
    have Hno := Lib.hid hno
    clear hE hno hR1 ho1 o2 eA eE B1
    go_wp2_with fail
    refine (HSk.out).mono ?_
    rintro e w3 ⟨rfl, hR3, ho3⟩
    have B3 := Lib.hid (B2.out.only ho3 (fun e => by have : w.heap.size = r := e; omega))
    have d0 := B3.out.cell 0
    have d1 := B3.out.cell 1
    have d2 := B3.out.cell 2
    have d3 := B3.out.cell 3
    simp only [List.getElem?_toArray, List.getElem?_cons_zero, List.getElem?_cons_succ] at d0 d1 d2 d3
    have f0 := B3.out.frozen 0
    have f1 := B3.out.frozen 1
    have f2 := B3.out.frozen 2
    have f3 := B3.out.frozen 3
    have y := plan_put B3.out (iv 0) (iv 0) (.slice none 0 0) (.slice none 0 0)
    have y0 := y.cell 0
    have y1 := y.cell 1
    have y2 := y.cell 2
    have y3 := y.cell 3
    simp only [List.getElem?_toArray, List.getElem?_cons_zero, List.getElem?_cons_succ] at y0 y1 y2 y3
    have Z1 := Lib.hid (plan_rd B3.out hR3 (by omega) (iv 0) (iv 0) (.slice none 0 0) (.slice none 0 0))
    have Z2 := Lib.hid (plan_only (HO2.out.trans ho3) (.inr (Nat.le_refl _)) (iv 0) (iv 0) (.slice none 0 0) (.slice none 0 0))
    clear y hR3 ho3 B2 HSk
    go_wp2
    refine bodyPost_ret (v := .tuple #[.slice none 0 0, plan0, iv E]) ?_ rfl ?_
    · simp [results, Tryz.f83, go_sem, y0, y1, y2, y3]
    exact .inl ⟨E, rfl, HE.out, Z1.out, Z2.out, fun m' o' rs' a2 hp => Hno.out m' o' rs' a2 hp.1 hp.2⟩
  · have B1 := Lib.hid (B0.out.only ho1 (fun e => by have : w.heap.size = r := e; omega))
    obtain ⟨P, hP⟩ : ∃ P, 2 ^ o = P := ⟨_, rfl⟩
    rw [hP]
    have o2 := (Only.refl Nix w1).alloc (.cells #[iv m, iv o, .slice (some ⟨gp, 0, none⟩) P P, .slice (some ⟨gb, 0, none⟩) P P] 26)
    have x12 := Lib.hid (Box.new w1 26 #[iv m, iv o, .slice (some ⟨gp, 0, none⟩) P P, .slice (some ⟨gb, 0, none⟩) P P])
    have B2 := Lib.hid (B1.out.alloc (.cells #[iv m, iv o, .slice (some ⟨gp, 0, none⟩) P P, .slice (some ⟨gb, 0, none⟩) P P] 26))
    have HO2 := Lib.hid (((HA0.out.nix (F := Just r)).trans ho1).alloc (.cells #[iv m, iv o, .slice (some ⟨gp, 0, none⟩) P P, .slice (some ⟨gb, 0, none⟩) P P] 26))
    obtain ⟨V, hV⟩ : ∃ V, w1.alloc (.cells #[iv m, iv o, .slice (some ⟨gp, 0, none⟩) P P, .slice (some ⟨gb, 0, none⟩) P P] 26) = V := ⟨_, rfl⟩
    rw [hV] at o2 x12 B2 HO2
    have HR2 := Lib.hid (hR1.nix o2)
    have BP := Lib.hid (bp.only o2 (fun e => e))
    have BB := Lib.hid (bb.only o2 (fun e => e))
    have BG := Lib.hid (bg.only o2 (fun e => e))
    have hlt := B1.out.lt
    have d0 := B2.out.cell 0
    have d1 := B2.out.cell 1
    have d2 := B2.out.cell 2
    have d3 := B2.out.cell 3
    have x0 := x12.out.cell 0
    have x1 := x12.out.cell 1
    have x2 := x12.out.cell 2
    have x3 := x12.out.cell 3
    simp only [List.getElem?_toArray, List.getElem?_cons_zero, List.getElem?_cons_succ] at d0 d1 d2 d3 x0 x1 x2 x3
    have f0 := B2.out.frozen 0
    have f1 := B2.out.frozen 1
    have f2 := B2.out.frozen 2
    have f3 := B2.out.frozen 3
    have Hok := Lib.hid hok
    have Hrb := Lib.hid hrb
    clear hok hrb hR1 ho1 bp bb bg o2 B1 HBl HAt HC
    have n1 : gp ≠ w.heap.size := Box.type_ne BP.out B2.out (by decide)
    have n2 : gb ≠ w.heap.size := Box.type_ne BB.out B2.out (by decide)
    have n3 : g ≠ w.heap.size := Box.type_ne BG.out B2.out (by decide)
    have y := (plan_put B2.out (iv m) (iv o) (.slice (some ⟨gp, 0, none⟩) P P) (.slice (some ⟨gb, 0, none⟩) P P)).drew
    have y0 := y.cell 0
    have y1 := y.cell 1
    have y2 := y.cell 2
    have y3 := y.cell 3
    simp only [List.getElem?_toArray, List.getElem?_cons_zero, List.getElem?_cons_succ] at y0 y1 y2 y3
    have Z1 := Lib.hid ((plan_rd B2.out HR2.out (by omega) (iv m) (iv o) (.slice (some ⟨gp, 0, none⟩) P P) (.slice (some ⟨gb, 0, none⟩) P P)).nix (Only.refl Nix _ |>.drew))
    have Z2 := Lib.hid ((plan_only HO2.out (.inr (Nat.le_refl _)) (iv m) (iv o) (.slice (some ⟨gp, 0, none⟩) P P) (.slice (some ⟨gb, 0, none⟩) P P)).drew)
    have Z3 := Lib.hid ((plan_off BP.out n1 (iv m) (iv o) (.slice (some ⟨gp, 0, none⟩) P P) (.slice (some ⟨gb, 0, none⟩) P P)).drew)
    have Z4 := Lib.hid ((plan_off BB.out n2 (iv m) (iv o) (.slice (some ⟨gp, 0, none⟩) P P) (.slice (some ⟨gb, 0, none⟩) P P)).drew)
    have Z5 := Lib.hid ((plan_off BG.out n3 (iv m) (iv o) (.slice (some ⟨gp, 0, none⟩) P P) (.slice (some ⟨gb, 0, none⟩) P P)).drew)
    have HP := Lib.hid hP
    clear y hP n1 n2 n3
    go_wp2
    go_region
    go_wp2
    refine bodyPost_ret (v := .tuple #[.slice (some ⟨g, 0, none⟩) (b - s) (b - s), planV m o (.slice (some ⟨gp, 0, none⟩) P P) (.slice (some ⟨gb, 0, none⟩) P P), iv 0]) ?_ rfl ?_
    · simp [results, Tryz.f83, go_sem, y0, y1, y2, y3]
    refine .inr ⟨m, o, gp, gb, g, rs, a', by rw [HP.out], ⟨Hok.out, Hrb.out⟩, Z3.out, Z4.out, Z5.out, Z1.out, Z2.out⟩
end Go.Proofs.YteklfkpeaadinaaGreatDoor
namespace Go.Proofs.YteklfkpeaadinaaGreatDoor
open Go.RowKit

theorem piece_mid (L E X : List Nat) : ((L ++ E ++ X).drop L.length).take E.length = E := by
  rw [List.append_assoc, List.drop_left, List.take_left]
theorem numAt_mid {bs L E X : List Nat} (h : bitsOf bs = L ++ E ++ X) : numAt bs L.length E.length = val E := by
  unfold numAt; rw [h, piece_mid]
theorem len_mid {bs L E X : List Nat} (h : bitsOf bs = L ++ E ++ X) : L.length + E.length ≤ 8 * bs.length := by
  rw [← bitsOf_len, h, List.length_append, List.length_append]; omega
theorem take_mid {bs L X : List Nat} {n x : Nat} (h : bitsOf bs = L ++ bitsN n x ++ X) (hn : n ≤ 48) : takeE bs L.length (n : Int) = 0 ∧ takeA bs L.length (n : Int) = L.length + n ∧ numAt bs L.length n = x % 2 ^ n := by
  have h1 := len_mid h
  rw [bitsN_len] at h1
  have e1 : takeE bs L.length (n : Int) = 0 := takeE_ok (by omega) (by omega)
  refine ⟨e1, by unfold takeA; rw [e1, if_pos rfl, Int.toNat_natCast], ?_⟩
  have h2 := numAt_mid h
  rw [bitsN_len, val_bitsN] at h2
  exact h2
theorem put_back {bs L X : List Nat} {n x : Int} (hE : putE n x = 0) (h : bitsOf bs = putL L n x ++ X) : takeR bs L.length n = x ∧ takeE bs L.length n = 0 ∧ takeA bs L.length n = (putL L n x).length := by
  have hn : ¬ (n < 0 ∨ 48 < n) := fun hh => by unfold putE at hE; rw [if_pos hh] at hE; cases hE
  obtain ⟨m, rfl⟩ := Int.eq_ofNat_of_zero_le (show 0 ≤ n by omega)
  have hx : ¬ (x < 0 ∨ (2 : Int) ^ (m : Int).toNat ≤ x) := fun hh => by unfold putE at hE; rw [if_neg hn, if_pos hh] at hE; cases hE
  obtain ⟨y, rfl⟩ := Int.eq_ofNat_of_zero_le (show 0 ≤ x by omega)
  have e1 : putL L (m : Int) (y : Int) = L ++ bitsN m y := by unfold putL; rw [hE, if_pos rfl, Int.toNat_natCast, Int.toNat_natCast]
  rw [e1] at h ⊢
  obtain ⟨t1, t2, t3⟩ := take_mid h (by omega)
  rw [Int.toNat_natCast, pow_cast] at hx
  refine ⟨?_, t1, by rw [t2, List.length_append, bitsN_len]⟩
  unfold takeR
  rw [t1, if_pos rfl, Int.toNat_natCast, t3, Nat.mod_eq_of_lt (by omega)]
theorem sgn_back {bs L X : List Nat} {n x : Int} (hE : sgnE n x = 0) (h : bitsOf bs = sgnL L n x ++ X) : signR bs L.length n = x ∧ takeE bs L.length n = 0 ∧ takeA bs L.length n = (sgnL L n x).length := by
  have hn : ¬ (n < 0 ∨ 48 < n) := fun hh => by unfold sgnE at hE; rw [if_pos hh] at hE; cases hE
  obtain ⟨m, rfl⟩ := Int.eq_ofNat_of_zero_le (show 0 ≤ n by omega)
  have hx : isS m x := by
    by_cases hh : isS m x
    · exact hh
    · unfold sgnE at hE; rw [if_neg hn, Int.toNat_natCast, if_neg hh] at hE; cases hE
  have e1 : sgnL L (m : Int) x = L ++ bitsN m (x % 2 ^ m).toNat := by unfold sgnL; rw [hE, if_pos rfl, Int.toNat_natCast]
  rw [e1] at h ⊢
  obtain ⟨t1, t2, t3⟩ := take_mid h (by omega)
  refine ⟨?_, t1, by rw [t2, List.length_append, bitsN_len]⟩
  unfold signR
  rw [t1, if_pos rfl, Int.toNat_natCast, t3]
  unfold isS at hx
  rcases Nat.eq_zero_or_pos m with rfl | hp
  · rw [if_pos rfl] at hx
    subst hx
    rfl
  · obtain ⟨k, rfl⟩ : ∃ k, m = k + 1 := ⟨m - 1, by omega⟩
    rw [if_neg (by omega), Nat.add_sub_cancel, pow_cast] at hx
    rw [Nat.add_sub_cancel, pow_cast]
    have hps : 2 ^ (k + 1) = 2 ^ k * 2 := Nat.pow_succ 2 k
    have hpp : 0 < 2 ^ k := Nat.two_pow_pos k
    rw [hps]
    generalize 2 ^ k = P at *
    by_cases h0 : 0 ≤ x
    · have e2 : x % ((P * 2 : Nat) : Int) = x := Int.emod_eq_of_lt h0 (by omega)
      rw [e2, Nat.mod_eq_of_lt (by omega), if_neg (by omega)]
      omega
    · have e2 : x % ((P * 2 : Nat) : Int) = x + ((P * 2 : Nat) : Int) := by
        rw [← Int.add_emod_right, Int.emod_eq_of_lt (by omega) (by omega)]
      rw [e2, Nat.mod_eq_of_lt (by omega), if_pos ⟨by omega, by omega⟩]
      omega
theorem un_back {bs L X : List Nat} {x : Int} (hE : unE x = 0) (h : bitsOf bs = unL L x ++ X) : unaryR bs L.length = x ∧ unaryE bs L.length = 0 ∧ unaryA bs L.length = (unL L x).length := by
  have hx : ¬ (x < 0 ∨ 65536 < x) := fun hh => by unfold unE at hE; rw [if_pos hh] at hE; cases hE
  obtain ⟨k, rfl⟩ := Int.eq_ofNat_of_zero_le (show 0 ≤ x by omega)
  have e1 : unL L (k : Int) = (L ++ List.replicate k 0) ++ [1] := by unfold unL; rw [hE, if_pos rfl, Int.toNat_natCast]
  rw [e1] at h ⊢
  have hl := congrArg List.length h
  rw [bitsOf_len] at hl
  simp at hl
  have h1 : oneAt bs L.length = L.length + k := by
    refine one_found (by omega) (fun j hj1 hj2 => ?_) ?_
    · rw [h, List.append_assoc, List.append_assoc, List.getElem?_append_right hj1, List.getElem?_append_left (by simp; omega)]
      rw [List.getElem?_replicate, if_pos (by omega)]
    · rw [h, List.append_assoc, List.getElem?_append_right (by simp)]
      simp
  have h2 : ¬ oneAt bs L.length = 8 * bs.length := by omega
  refine ⟨?_, by unfold unaryE; rw [if_neg h2], by unfold unaryA; rw [if_neg h2, h1]; simp; omega⟩
  unfold unaryR
  rw [if_neg h2, h1]
  omega
theorem rc_back {bs L X : List Nat} {p : Nat} {x : Int} (hp : p ≤ 30) (hx : isR x) (hf : fd x / 2 ^ p ≤ 65536) (h : bitsOf bs = L ++ resB p 0 x ++ X) : rcX bs p L.length = (x, 0, L.length + (resB p 0 x).length) := by
  have hpn : ¬ ((p : Int) = -1) := by omega
  have er : resB p 0 x = (List.replicate (fd x / 2 ^ p) 0 ++ [1]) ++ bitsN p (fd x % 2 ^ p) := by unfold resB; rw [if_neg hpn, Int.toNat_natCast]
  have e0 : unE ((fd x / 2 ^ p : Nat) : Int) = 0 := by unfold unE; rw [if_neg (by generalize fd x / 2 ^ p = q at *; omega)]
  have e1 : unL L ((fd x / 2 ^ p : Nat) : Int) = L ++ (List.replicate (fd x / 2 ^ p) 0 ++ [1]) := by unfold unL; rw [e0, if_pos rfl, Int.toNat_natCast, List.append_assoc]
  rw [er] at h
  obtain ⟨u1, u2, u3⟩ := un_back (bs := bs) (L := L) (X := bitsN p (fd x % 2 ^ p) ++ X) e0 (by rw [h, e1]; simp [List.append_assoc])
  rw [e1] at u3
  obtain ⟨t1, t2, t3⟩ := take_mid (bs := bs) (L := L ++ (List.replicate (fd x / 2 ^ p) 0 ++ [1])) (X := X) (n := p) (x := fd x % 2 ^ p) (by rw [h]; simp [List.append_assoc]) (by omega)
  rw [← u3] at t1 t2 t3
  have hm := Nat.div_add_mod (fd x) (2 ^ p)
  have hml : fd x % 2 ^ p % 2 ^ p = fd x % 2 ^ p := Nat.mod_mod _ _
  have hv : (unaryR bs L.length).toNat * 2 ^ p + numAt bs (unaryA bs L.length) p = fd x := by
    rw [u1, Int.toNat_natCast, t3, hml, Nat.mul_comm]
    exact hm
  unfold rcX
  rw [if_neg (by rw [u2]; simp), if_neg (by rw [u1]; generalize fd x / 2 ^ p = q at *; omega), if_neg (by rw [t1]; simp), hv, ufd_fd, if_pos hx, u3, er]
  simp [bitsN_len, Nat.add_assoc, Nat.add_comm 1 p]
theorem sg_back {bs L X : List Nat} {wd : Nat} {x : Int} (hw : wd ≤ 31) (hx : fd x < 2 ^ wd) (h : bitsOf bs = L ++ resB (-1) wd x ++ X) : sgX bs wd L.length = (x, 0, L.length + (resB (-1) wd x).length) := by
  have er : resB (-1) wd x = bitsN wd (x % 2 ^ wd).toNat := by unfold resB; rw [if_pos rfl, Int.toNat_natCast]
  have hs : isS wd x := (isS_fd wd x).2 hx
  have e0 : sgnE (wd : Int) x = 0 := by unfold sgnE; rw [if_neg (by omega), Int.toNat_natCast, if_pos hs]
  have e1 : sgnL L (wd : Int) x = L ++ bitsN wd (x % 2 ^ wd).toNat := by unfold sgnL; rw [e0, if_pos rfl, Int.toNat_natCast]
  rw [er] at h ⊢
  obtain ⟨u1, u2, u3⟩ := sgn_back (bs := bs) (L := L) (X := X) e0 (by rw [h, e1])
  unfold sgX
  rw [u1, u2, u3, e1]
  simp [bitsN_len]
theorem fill_back {bs : List Nat} (f : Nat → Rx) (B : Int → List Nat) : ∀ (xs : List Int) (L X : List Nat), (∀ x ∈ xs, ∀ L X, bitsOf bs = L ++ B x ++ X → f L.length = (x, 0, L.length + (B x).length)) → bitsOf bs = L ++ xs.flatMap B ++ X →
    fE f xs.length L.length = 0 ∧ fV f xs.length L.length = xs ∧ fA f xs.length L.length = L.length + (xs.flatMap B).length
  | [], L, X, _, _ => ⟨rfl, rfl, by simp [fA]⟩
  | x :: xs, L, X, hf, h => by
    rw [List.flatMap_cons] at h
    have h1 := hf x (List.mem_cons_self ..) L (xs.flatMap B ++ X) (by rw [h]; simp [List.append_assoc])
    have h2 := fill_back f B xs (L ++ B x) X (fun y hy => hf y (List.mem_cons_of_mem _ hy)) (by rw [h]; simp [List.append_assoc])
    rw [List.length_append] at h2
    rw [List.length_cons, fE, fV, fA, h1]
    refine ⟨by rw [if_neg (by simp)]; exact h2.1, by rw [h2.2.1], ?_⟩
    rw [h2.2.2, List.flatMap_cons, List.length_append]
    omega
theorem part_back {bs L X : List Nat} {m : Nat} {p wd : Int} {xs : List Int} (hm : m ≤ 1) (hp : isP m p wd) (hr : ∀ x ∈ xs, isR x) (hmy : mayP p wd (xs.map fd) = true) (h : bitsOf bs = L ++ partB m p wd xs ++ X) :
    RPok bs m xs.length L.length p wd xs (L.length + (partB m p wd xs).length) := by
  have hle : ∀ x ∈ xs, fd x ≤ mxN (xs.map fd) := fun x hx => mxN_le _ (List.mem_map.2 ⟨x, hx, rfl⟩)
  rcases hp with ⟨rfl, h2, h3⟩ | ⟨h2, h3, rfl⟩
  · obtain ⟨wd, rfl⟩ := Int.eq_ofNat_of_zero_le h2
    unfold mayP at hmy
    rw [if_pos rfl, Int.toNat_natCast, decide_eq_true_eq] at hmy
    have ht : partB m (-1) wd xs = (bitsN (4 + m) (15 + 16 * m) ++ bitsN 5 wd) ++ xs.flatMap (resB (-1) wd) := by unfold partB hdB; rw [if_pos rfl, Int.toNat_natCast]
    rw [ht] at h ⊢
    obtain ⟨t1, t2, t3⟩ := take_mid (bs := bs) (L := L) (X := bitsN 5 wd ++ xs.flatMap (resB (-1) wd) ++ X) (n := 4 + m) (x := 15 + 16 * m) (by rw [h]; simp [List.append_assoc]) (by omega)
    have hpw : (15 + 16 * m) % 2 ^ (4 + m) = 15 + 16 * m := by
      obtain rfl | rfl : m = 0 ∨ m = 1 := by omega
      · decide
      · decide
    obtain ⟨s1, s2, s3⟩ := take_mid (bs := bs) (L := L ++ bitsN (4 + m) (15 + 16 * m)) (X := xs.flatMap (resB (-1) wd) ++ X) (n := 5) (x := wd) (by rw [h]; simp [List.append_assoc]) (by omega)
    rw [List.length_append, bitsN_len] at s1 s2 s3
    have hwm : wd % 2 ^ 5 = wd := Nat.mod_eq_of_lt (by have : (2 : Nat) ^ 5 = 32 := by decide
                                                       omega)
    rw [hwm] at s3
    have hF := fill_back (bs := bs) (sgX bs wd) (resB (-1) wd) xs (L ++ bitsN (4 + m) (15 + 16 * m) ++ bitsN 5 wd) X (fun x hx L' X' h' => sg_back (by omega) (Nat.lt_of_le_of_lt (hle x hx) hmy) h') (by rw [h]; simp [List.append_assoc])
    rw [List.length_append, List.length_append, bitsN_len, bitsN_len] at hF
    refine ⟨t1, .inr ⟨by rw [t3, hpw], s1, rfl, by rw [s3], by rw [s3]; exact hF.1, by rw [s3]; exact hF.2.1.symm, ?_⟩⟩
    rw [s3, hF.2.2]
    simp [bitsN_len]
    omega
  · obtain ⟨p, rfl⟩ := Int.eq_ofNat_of_zero_le h2
    have hpn : ¬ ((p : Int) = -1) := by omega
    unfold mayP at hmy
    rw [if_neg hpn, Int.toNat_natCast, decide_eq_true_eq] at hmy
    have ht : partB m p 0 xs = bitsN (4 + m) p ++ xs.flatMap (resB p 0) := by unfold partB hdB; rw [if_neg hpn, Int.toNat_natCast]
    rw [ht] at h ⊢
    obtain ⟨t1, t2, t3⟩ := take_mid (bs := bs) (L := L) (X := xs.flatMap (resB p 0) ++ X) (n := 4 + m) (x := p) (by rw [h]; simp [List.append_assoc]) (by omega)
    have hpw : p % 2 ^ (4 + m) = p := Nat.mod_eq_of_lt (by
      obtain rfl | rfl : m = 0 ∨ m = 1 := by omega
      · have : (2 : Nat) ^ (4 + 0) = 16 := by decide
        omega
      · have : (2 : Nat) ^ (4 + 1) = 32 := by decide
        omega)
    rw [hpw] at t3
    have hF := fill_back (bs := bs) (rcX bs p) (resB p 0) xs (L ++ bitsN (4 + m) p) X (fun x hx L' X' h' => rc_back (by omega) (hr x hx) (Nat.le_trans (Nat.div_le_div_right (hle x hx)) hmy) h') (by rw [h]; simp [List.append_assoc])
    rw [List.length_append, bitsN_len] at hF
    refine ⟨t1, .inl ⟨by rw [t3]; omega, by rw [t3], rfl, by rw [t3]; exact hF.1, by rw [t3]; exact hF.2.1.symm, ?_⟩⟩
    rw [t3, hF.2.2]
    simp [bitsN_len]
    omega
theorem parts_back {bs : List Nat} {m : Nat} (hm : m ≤ 1) (pk wk : Nat → Int) (xk : Nat → List Int) (nk : Nat → Nat) : ∀ (ks : List Nat) (L X : List Nat), (∀ k ∈ ks, isP m (pk k) (wk k) ∧ (∀ x ∈ xk k, isR x) ∧ mayP (pk k) (wk k) ((xk k).map fd) = true ∧ nk k = (xk k).length) →
    bitsOf bs = L ++ (ks.flatMap fun k => partB m (pk k) (wk k) (xk k)) ++ X → RBk bs m nk ks L.length (ks.map fun k => (pk k, wk k, xk k)) (L.length + (ks.flatMap fun k => partB m (pk k) (wk k) (xk k)).length)
  | [], L, X, _, _ => by simp [RBk]
  | k :: ks, L, X, hk, h => by
    rw [List.flatMap_cons] at h
    obtain ⟨h1, h2, h3, h4⟩ := hk k (List.mem_cons_self ..)
    have hp := part_back (bs := bs) (L := L) (X := (ks.flatMap fun k => partB m (pk k) (wk k) (xk k)) ++ X) hm h1 h2 h3 (by rw [h]; simp [List.append_assoc])
    have hq := parts_back hm pk wk xk nk ks (L ++ partB m (pk k) (wk k) (xk k)) X (fun j hj => hk j (List.mem_cons_of_mem _ hj)) (by rw [h]; simp [List.append_assoc])
    rw [List.length_append] at hq
    rw [List.map_cons]
    refine ⟨L.length + (partB m (pk k) (wk k) (xk k)).length, by rw [h4]; exact hp, ?_⟩
    rw [List.flatMap_cons, List.length_append, ← Nat.add_assoc]
    exact hq
/-- what a plan's parts are -/
def plRs (S s P : Nat) (ps bs l : List Int) : List (Int × Int × List Int) := (List.range P).map fun k => (ps.getD k 0, bs.getD k 0, pt S s l k)
theorem block_back {by_ L X : List Nat} {m o s P S : Nat} {ps bs l : List Int} (hF : Fine m o s P S ps bs l) (h : bitsOf by_ = L ++ blockB S s P m o ps bs l ++ X) :
    Parse by_ L.length (l.length + s) s m o (plRs S s P ps bs l) (L.length + (blockB S s P m o ps bs l).length) := by
  have hpp : 0 < 2 ^ o := Nat.two_pow_pos o
  have hb : blockB S s P m o ps bs l = (bitsN 2 m ++ bitsN 4 o) ++ (List.range P).flatMap fun k => partB m (ps.getD k 0) (bs.getD k 0) (pt S s l k) := rfl
  rw [hb] at h ⊢
  have hS : (l.length + s) / 2 ^ o = S := by rw [← hF.eq, ← hF.pw]; exact Nat.mul_div_cancel_left _ hpp
  obtain ⟨t1, t2, t3⟩ := take_mid (bs := by_) (L := L) (X := bitsN 4 o ++ ((List.range P).flatMap fun k => partB m (ps.getD k 0) (bs.getD k 0) (pt S s l k)) ++ X) (n := 2) (x := m) (by rw [h]; simp [List.append_assoc]) (by omega)
  obtain ⟨s1, s2, s3⟩ := take_mid (bs := by_) (L := L ++ bitsN 2 m) (X := ((List.range P).flatMap fun k => partB m (ps.getD k 0) (bs.getD k 0) (pt S s l k)) ++ X) (n := 4) (x := o) (by rw [h]; simp [List.append_assoc]) (by omega)
  rw [List.length_append, bitsN_len] at s1 s2 s3
  have m1 := hF.m1
  have o15 := hF.o15
  have e1 : m % 2 ^ 2 = m := Nat.mod_eq_of_lt (by have : (2 : Nat) ^ 2 = 4 := by decide
                                                  omega)
  have e2 : o % 2 ^ 4 = o := Nat.mod_eq_of_lt (by have : (2 : Nat) ^ 4 = 16 := by decide
                                                  omega)
  have hck : ckP o (l.length + s) s = 0 := by
    unfold ckP
    rw [if_neg]
    rw [hS, ← hF.eq, hF.pw]
    have := hF.lt
    simp
    omega
  refine ⟨⟨t1, by rw [t3, e1], by omega, s1, by rw [s3, e2], hck⟩, ?_⟩
  rw [hS, hF.pw]
  have hp := parts_back (bs := by_) m1 (fun k => ps.getD k 0) (fun k => bs.getD k 0) (fun k => pt S s l k) (fun k => frm S s (k + 1) - frm S s k) (List.range P) (L ++ bitsN 2 m ++ bitsN 4 o) X (fun k hk => by
    have hk' := List.mem_range.1 hk
    refine ⟨?_, fun x hx => hF.res x (List.mem_of_mem_drop (List.mem_of_mem_take hx)), ?_, (pt_len S s P l k hF.lt hk' hF.eq).symm⟩
    · have := hF.all k (by rw [hF.np]; exact hk') (by rw [hF.nb]; exact hk')
      rw [List.getD_eq_getElem?_getD, List.getElem?_eq_getElem (by rw [hF.np]; exact hk'), List.getD_eq_getElem?_getD, List.getElem?_eq_getElem (by rw [hF.nb]; exact hk')]
      exact this
    · have := hF.may k hk'
      rw [show pt S s (l.map fd) k = (pt S s l k).map fd from by unfold pt; rw [List.map_take, List.map_drop]] at this
      exact this) (by rw [h]; simp [List.append_assoc])
  rw [List.length_append, List.length_append, bitsN_len, bitsN_len] at hp
  rw [List.length_append, List.length_append, bitsN_len, bitsN_len]
  rw [show L.length + 6 = L.length + 2 + 4 from rfl, show L.length + (2 + 4 + (List.flatMap (fun k => partB m (ps.getD k 0) (bs.getD k 0) (pt S s l k)) (List.range P)).length) = L.length + 2 + 4 + (List.flatMap (fun k => partB m (ps.getD k 0) (bs.getD k 0) (pt S s l k)) (List.range P)).length from by omega]
  exact hp
theorem setAll_range (vs : List Int) : ∀ (n : Nat) (xs : List Int), n ≤ vs.length → vs.length ≤ xs.length → setAll xs (List.range n) (vs.take n) = vs.take n ++ xs.drop n
  | 0, xs, _, _ => by simp [setAll]
  | n + 1, xs, h, hx => by
    have ih := setAll_range vs n xs (by omega) hx
    rw [List.range_succ, List.take_succ_eq_append_getElem h, setAll_snoc _ _ _ _ _ (by simp; omega), ih]
    have h1 : xs.drop n = xs[n] :: xs.drop (n + 1) := List.drop_eq_getElem_cons (by omega)
    have hl : (vs.take n).length = n := by simp; omega
    rw [List.set_append_right _ _ (by omega), hl, Nat.sub_self, h1, List.set_cons_zero, List.append_assoc]
    rfl
theorem setAll_all (vs xs : List Int) (n : Nat) (h : vs.length = n) (hx : xs.length = n) : setAll xs (List.range n) vs = vs := by
  have := setAll_range vs n xs (by omega) (by omega)
  rw [List.take_of_length_le (by omega), List.drop_of_length_le (by omega), List.append_nil] at this
  exact this
theorem layAll_range (S s P : Nat) (hS : s < S) (l xs : List Int) (hn : P * S = l.length + s) (hx : xs.length = l.length) : ∀ j, j ≤ P → layAll S s xs (List.range j) ((List.range j).map fun k => pt S s l k) = l.take (frm S s j) ++ xs.drop (frm S s j)
  | 0, _ => by simp [layAll, frm_zero]
  | j + 1, hj => by
    have ih := layAll_range S s P hS l xs hn hx j (by omega)
    have h1 := (frm_step S s j hS).1
    have h2 := frm_le S s (j + 1) P l.length hj hn
    have hl : (pt S s l j).length = frm S s (j + 1) - frm S s j := pt_len S s P l j hS hj hn
    rw [List.range_succ, List.map_append, List.map_singleton, layAll_snoc _ _ _ _ _ _ _ (by simp), ih]
    unfold putAt
    have e1 : (l.take (frm S s j) ++ xs.drop (frm S s j)).take (frm S s j) = l.take (frm S s j) := by rw [List.take_left' (by simp; omega)]
    have e2 : (l.take (frm S s j) ++ xs.drop (frm S s j)).drop (frm S s j + (pt S s l j).length) = xs.drop (frm S s (j + 1)) := by
      rw [List.drop_append, List.drop_of_length_le (by simp; omega), List.nil_append, List.drop_drop, hl, List.length_take]
      congr 1
      omega
    rw [e1, e2]
    congr 1
    unfold pt
    have e3 : frm S s (j + 1) = frm S s j + (frm S s (j + 1) - frm S s j) := by omega
    rw [e3, List.take_add, Nat.add_sub_cancel_left]
theorem layAll_all (S s P n : Nat) (hS : s < S) (l xs : List Int) (hn : P * S = n + s) (hl : l.length = n) (hx : xs.length = n) : layAll S s xs (List.range P) ((List.range P).map fun k => pt S s l k) = l := by
  subst hl
  have := layAll_range S s P hS l xs hn hx P (Nat.le_refl _)
  have hf : frm S s P = l.length := by unfold frm; omega
  rw [this, hf, List.take_length, List.drop_of_length_le (by omega), List.append_nil]
end Go.Proofs.YteklfkpeaadinaaGreatDoor
namespace Go.Proofs.YteklfkpeaadinaaGreatDoor
open Go.RowKit

theorem Src.at_ {w : World} {v : Value} {bs : List Nat} (h : Src w v bs) {k : Nat} (hk : k < bs.length) : ∃ ad c, v = .slice (some ad) bs.length c ∧ w.cell? (ad.add k) = some (byt bs[k]) := by
  rcases h.form with ⟨_, rfl⟩ | ⟨ad, c, hv, hc⟩
  · simp at hk
  · exact ⟨ad, c, hv, hc k _ (by simp [hk])⟩
theorem Src.drewN {w : World} {v : Value} {bs : List Nat} (h : Src w v bs) (n : Nat) : Src (w.drewN n) v bs := ⟨h.form, h.small⟩
theorem Src.slice {w : World} {v : Value} {bs : List Nat} (h : Src w v bs) : ∃ A c, v = .slice A bs.length c := by
  rcases h.form with ⟨rfl, rfl⟩ | ⟨ad, c, hv, hc⟩
  · exact ⟨none, 0, rfl⟩
  · exact ⟨_, _, hv⟩
theorem Src.only {F : Nat → Prop} {w w' : World} {v : Value} {bs : List Nat} (h : Src w v bs) (ho : Only F w w') (hF : ∀ i, F i → ∀ ad n c, v = .slice (some ad) n c → ad.block ≠ i) : Src w' v bs := by
  refine ⟨?_, h.small⟩
  rcases h.form with hn | ⟨ad, c, hv, hc⟩
  · exact .inl hn
  · refine .inr ⟨ad, c, hv, fun j u hu => ?_⟩
    have h1 := hc j u hu
    have hb : (ad.add j).block = ad.block := by unfold Addr.add; split <;> rfl
    have hl := World.block_lt_of_cell? w _ h1
    rw [World.cell?_of_block (w := w) (ho.block (ad.add j).block hl (fun e => hF _ e ad _ c hv hb.symm))]
    exact h1
theorem Src.nix {w w' : World} {v : Value} {bs : List Nat} (h : Src w v bs) (ho : Only Nix w w') : Src w' v bs := h.only ho (fun _ e => e.elim)
def SameRel (w : World) (n : Nat) (s5 : Value) (wr : World) : Prop := ∃ k m : Nat, k ≤ n ∧ s5 = .int .i64 (k : Int) ∧ wr = w.drewN m
set_option maxHeartbeats 400000 in
theorem same_yes {w : World} {v1 v2 : Value} {bs : List Nat} (h1 : Src w v1 bs) (h2 : Src w v2 bs) :
    Calls Tryz.prog 33 #[v1, v2] w fun e w' => e = .returned (.bool true) ∧ ∃ m, w' = w.drewN m := by
  have hsm := h1.small
  obtain ⟨A1, c1, hv1⟩ := h1.slice
  obtain ⟨A2, c2, hv2⟩ := h2.slice
  subst hv1
  subst hv2
  go_enter Tryz.func33, Tryz.ntmps33
  go_wp2
  go_loopw [5] (fun s5 wr => SameRel w bs.length s5 wr) (fun s5 _ => bs.length - (intOf s5).toNat)
  case atStart => exact ⟨0, 0, Nat.zero_le _, rfl, rfl⟩
  case round =>
    obtain ⟨k, m, hk, rfl, hwr⟩ := hrel
    have g1 := h1.drewN m
    have g2 := h2.drewN m
    rw [← hwr] at g1 g2
    have Hw := Lib.hid hwr
    clear hwr
    by_cases hlt : k < bs.length
    · obtain ⟨ad1, d1, e1, hx1⟩ := g1.at_ hlt
      obtain ⟨ad2, d2, e2, hx2⟩ := g2.at_ hlt
      injection e1 with e1 _ e1'
      injection e2 with e2 _ e2'
      subst e1 e2 e1' e2'
      unfold byt at hx1 hx2
      have hlt2 : (k : Int) < (bs.length : Int) := by omega
      generalize bs[k] = y at *
      go_wp2_with fail
      go_quiet (fail)
      go_wp2
      go_roundw
      case rel => exact ⟨k + 1, m + nq, by omega, by go_num, by rw [Hw.out, World.drewN_drewN]⟩
      case measure => simp [intOf]; omega
    · go_wp2
      go_ret
      exact ⟨rfl, m, Hw.out⟩
set_option maxHeartbeats 400000 in
theorem ints_yes {w : World} {v1 v2 : Value} {xs : List Int} (h1 : ISrc w v1 xs) (h2 : ISrc w v2 xs) :
    Calls Tryz.prog 16 #[v1, v2] w fun e w' => e = .returned (.bool true) ∧ ∃ m, w' = w.drewN m := by
  have hsm := h1.small
  obtain ⟨A1, c1, hv1⟩ := h1.slice
  obtain ⟨A2, c2, hv2⟩ := h2.slice
  subst hv1
  subst hv2
  go_enter Tryz.func16, Tryz.ntmps16
  go_wp2
  go_loopw [5] (fun s5 wr => SameRel w xs.length s5 wr) (fun s5 _ => xs.length - (intOf s5).toNat)
  case atStart => exact ⟨0, 0, Nat.zero_le _, rfl, rfl⟩
  case round =>
    obtain ⟨k, m, hk, rfl, hwr⟩ := hrel
    have g1 := h1.nix ((Only.refl Nix w).drewN m)
    have g2 := h2.nix ((Only.refl Nix w).drewN m)
    rw [← hwr] at g1 g2
    have Hw := Lib.hid hwr
    clear hwr
    by_cases hlt : k < xs.length
    · obtain ⟨ad1, e1, hx1⟩ := g1.at_ hlt
      obtain ⟨ad2, e2, hx2⟩ := g2.at_ hlt
      subst e1 e2
      have hlt2 : (k : Int) < (xs.length : Int) := by omega
      generalize xs[k] = y at *
      go_wp2_with fail
      go_quiet (fail)
      go_wp2
      go_roundw
      case rel => exact ⟨k + 1, m + nq, by omega, by go_num, by rw [Hw.out, World.drewN_drewN]⟩
      case measure => simp [intOf]; omega
    · go_wp2
      go_ret
      exact ⟨rfl, m, Hw.out⟩
set_option maxHeartbeats 1000000 in
theorem same_plan {w : World} (m o : Int) (A B A' B' : Option Addr) (n n' k k' c d c' d' : Nat) (ps bs : List Int) (h1 : ISrc w (.slice A n c) ps) (h2 : ISrc w (.slice B k d) bs) (h3 : ISrc w (.slice A' n' c') ps) (h4 : ISrc w (.slice B' k' d') bs) :
    Calls Tryz.prog 45 #[planV m o (.slice A n c) (.slice B k d), planV m o (.slice A' n' c') (.slice B' k' d')] w fun e w' => e = .returned (.bool true) ∧ Only Nix w w' := by
  have a0 := ((Only.refl Nix w).alloc (.cells #[iv m, iv o, .slice A n c, .slice B k d] 26)).alloc (.cells #[iv m, iv o, .slice A' n' c', .slice B' k' d'] 26)
  have B0 := (Box.new w 26 #[iv m, iv o, .slice A n c, .slice B k d]).alloc (.cells #[iv m, iv o, .slice A' n' c', .slice B' k' d'] 26)
  have B1 := Box.new (w.alloc (.cells #[iv m, iv o, .slice A n c, .slice B k d] 26)) 26 #[iv m, iv o, .slice A' n' c', .slice B' k' d']
  rw [World.size_alloc] at B1
  obtain ⟨Wa, hWa⟩ : ∃ Wa, (w.alloc (.cells #[iv m, iv o, .slice A n c, .slice B k d] 26)).alloc (.cells #[iv m, iv o, .slice A' n' c', .slice B' k' d'] 26) = Wa := ⟨_, rfl⟩
  rw [hWa] at a0 B0 B1
  have HI1 := Lib.hid (ints_yes (h1.nix a0) (h3.nix a0))
  have HI2 : ∀ q, Hid (Calls Tryz.prog 16 #[.slice B k d, .slice B' k' d'] (Wa.drewN q) fun e w' => e = .returned (.bool true) ∧ ∃ m, w' = (Wa.drewN q).drewN m) := fun q => Lib.hid (ints_yes ((h2.nix a0).nix ((Only.refl Nix _).drewN q)) ((h4.nix a0).nix ((Only.refl Nix _).drewN q)))
  have d0 := B0.cell 0
  have d1 := B0.cell 1
  have d2 := B0.cell 2
  have d3 := B0.cell 3
  have e0 := B1.cell 0
  have e1 := B1.cell 1
  have e2 := B1.cell 2
  have e3 := B1.cell 3
  simp only [List.getElem?_toArray, List.getElem?_cons_zero, List.getElem?_cons_succ] at d0 d1 d2 d3 e0 e1 e2 e3
  have HA := Lib.hid a0
  clear a0 B0 B1 h1 h2 h3 h4
  go_enter Tryz.func45, Tryz.ntmps45
  go_wp2_with fail
  refine (HI1.out).mono ?_
  rintro e w1 ⟨rfl, q, rfl⟩
  have HI := HI2 q
  clear HI2 HI1
  go_wp2_with fail
  refine (HI.out).mono ?_
  rintro e w1 ⟨rfl, q2, rfl⟩
  go_wp2
  go_ret
  exact ⟨rfl, by first | exact (HA.out.drewN q).drewN q2 | exact HA.out.drewN (q + q2)⟩
end Go.Proofs.YteklfkpeaadinaaGreatDoor
namespace Go.Proofs.YteklfkpeaadinaaGreatDoor
open Go.RowKit Go.Shelf
attribute [local go_sem] Oper.semAt_some
theorem isrc_lit (w : World) (xs : List Int) (hn : xs.length ≤ 100) (hf : ∀ x ∈ xs, -9223372036854775808 ≤ x ∧ x ≤ 9223372036854775807) : ISrc (w.alloc (.cells (xs.map iv).toArray 3)) (.slice (some ⟨w.heap.size, 0, none⟩) xs.length xs.length) xs :=
  ISrc.of_box (Box.new w 3 (xs.map iv).toArray) rfl (Nat.le_refl _) (by omega) hf
end Go.Proofs.YteklfkpeaadinaaGreatDoor
namespace Go.Proofs.YteklfkpeaadinaaGreatDoor
open Go.RowKit

/-- The slice v0 holds these lists of bytes, none of them empty, in every world in which no other blocks than F's have turned. -/
def Lists (w : World) (F : Nat → Prop) (v0 : Value) (ll : List (List Nat)) : Prop :=
  ∃ A c, v0 = .slice A ll.length c ∧ ∀ j, (hj : j < ll.length) → ∃ g off ad c', A = some ⟨g, off, none⟩ ∧ 0 < ll[j].length ∧ ll[j].length ≤ 1048576 ∧ (∀ x ∈ ll[j], x < 256) ∧
    ∀ w', Only F w w' → w'.cell? ⟨g, off + j, none⟩ = some (.slice (some ad) ll[j].length c') ∧ ∀ k u, (ll[j].map byt)[k]? = some u → w'.cell? (ad.add k) = some u
def AppRel (w : World) (b : Nat) (v : Value) (L : List Nat) (ll : List (List Nat)) (s12 : Value) (wr : World) : Prop :=
  ∃ i : Nat, i ≤ ll.length ∧ s12 = iv i ∧ WrTo w b v (L ++ bitsOf (ll.take i).flatten) wr
def AppIn (w : World) (b : Nat) (v : Value) (L m : List Nat) (s39 : Value) (wr : World) : Prop :=
  ∃ k : Nat, k ≤ m.length ∧ s39 = iv k ∧ WrTo w b v (L ++ bitsOf (m.take k)) wr
theorem Packs.full {bs l m : List Nat} (h : Packs bs l) (ha : l.length % 8 = 0) (hm : ∀ x ∈ m, x < 256) : Packs (bs ++ m) (l ++ bitsOf m) := by
  have h1 := h.lo
  have h2 := h.hi
  have e : 8 * bs.length = l.length := by omega
  have hb := h.bits
  rw [e, Nat.sub_self, List.replicate_zero, List.append_nil] at hb
  have hl := bitsOf_len m
  refine ⟨fun x hx => ?_, ?_, ?_, ?_⟩
  · rcases List.mem_append.1 hx with h3 | h3
    · exact h.lt x h3
    · exact hm x h3
  · rw [bitsOf_append, hb, List.length_append, List.length_append, hl, show 8 * (bs.length + m.length) - (l.length + 8 * m.length) = 0 from by omega]
    simp
  · rw [List.length_append, List.length_append, hl]; omega
  · rw [List.length_append, List.length_append, hl]; omega
set_option maxHeartbeats 2000000 in
theorem append_any {w : World} {b : Nat} {v : Value} {bs L : List Nat} {v0 : Value} {ll : List (List Nat)} (h : Wr w b v bs L) (hLL : Lists w (WF b v) v0 ll) (hn : ll.length ≤ 1000) (hl : ∀ i, i ≤ ll.length → (L ++ bitsOf (ll.take i).flatten).length ≤ 140737488355328) :
    Calls Tryz.prog 12 #[.pointer (some ⟨b, 0, none⟩), v0] w fun e w' => e = .returned (.tuple #[]) ∧ WrTo w b v (L ++ bitsOf ll.flatten) w' := by
  obtain ⟨i0, hi, hz0, hz1, hz2⟩ := info_parts Tryz.info_byte
  obtain ⟨A, c, hv0, hcell⟩ := hLL
  subst hv0
  have Hcell := Lib.hid hcell
  have Hl := Lib.hid hl
  have hW0 := Lib.hid (WrTo.same h rfl)
  clear hcell h hl
  go_enter Tryz.func12, Tryz.ntmps12
  go_wp2
  go_loopw [12] (fun s12 wr => AppRel w b v L ll s12 wr) (fun s12 _ => ll.length - (intOf s12).toNat)
  case atStart => exact ⟨0, Nat.zero_le _, rfl, by simpa [bitsOf] using hW0.out⟩
  case round =>
    obtain ⟨i, hi1, rfl, v1, bs1, hW1, ho1, hm1⟩ := hrel
    by_cases hlt : i < ll.length
    · obtain ⟨g, off, ad, c', rfl, hpos, hbig, h256, hall⟩ := Hcell.out i hlt
      have hfl : (ll.take (i + 1)).flatten = (ll.take i).flatten ++ ll[i] := by rw [List.take_succ_eq_append_getElem hlt, List.flatten_append]; simp
      have hnext : L ++ bitsOf (ll.take (i + 1)).flatten = (L ++ bitsOf (ll.take i).flatten) ++ bitsOf ll[i] := by rw [hfl, bitsOf_append, List.append_assoc]
      have hl1 := Hl.out (i + 1) (by omega)
      rw [hnext] at hl1
      have Hnext := Lib.hid hnext
      have Hall := Lib.hid hall
      have H256 := Lib.hid h256
      clear hfl hnext hall h256
      generalize ll[i] = m at *
      generalize L ++ bitsOf (ll.take i).flatten = L1 at *
      have hbm := bitsOf_len m
      rw [List.length_append, hbm] at hl1
      have Hbm := Lib.hid hbm
      clear hbm
      obtain ⟨hx, hsrc⟩ := Hall.out wr ho1
      have Hsrc := Lib.hid hsrc
      clear hsrc
      have hlt2 : (i : Int) < (ll.length : Int) := by omega
      have Hpad := Lib.hid (pad_nat b L1.length wr hW1.cell0)
      have HW1 := Lib.hid hW1
      have Ho1 := Lib.hid ho1
      have Hm1 := Lib.hid hm1
      have hl1len := hW1.len
      obtain ⟨A5, c5, hv5⟩ := owns_slice hW1.own
      have hc1 := hW1.cell1
      rw [hv5] at hc1
      have hf1 := hW1.box.frozen 1
      have hne1 := hW1.ne
      have Hv5 := Lib.hid hv5
      clear hW1 ho1 hm1 hv5
      by_cases hP : padN L1.length = 0
      · have ha8 : L1.length % 8 = 0 := by unfold padN at hP; omega
        rw [hP] at Hpad
        have Ha8 := Lib.hid ha8
        clear hP ha8
        go_wp2_with fail
        refine (Hpad.out).mono ?_
        rintro e w2 ⟨rfl, rfl⟩
        go_wp2_with (at_builtin; refine wpList_append_lies _ rfl (.tmp 25) (.tmp 26) 39 rfl 0 5 i0 (.int .u8 0) 1 1 Tryz.underlying39 hi hz0 hz1 hz2 rfl (by decide) (.slice A5 bs1.length c5) bs1.length (bs1.map byt) rfl ?hown ad m.length c' (m.map byt) rfl ?hl ?hnews ?h1 hpos ?h63 ?hby ?hbase wr.heap.size ?hH ?rest)
        case hown => have := HW1.out.own; rw [Hv5.out] at this; exact this
        case hl => simp
        case hnews => exact Hsrc.out
        case h1 => intro u hu; obtain ⟨y, _, rfl⟩ := List.mem_map.1 hu; rfl
        case h63 => unfold maxLen; omega
        case hby => omega
        case hbase => omega
        case hH => rfl
        case rest =>
          intro g3 cap3 w3 hown3 hgr hat hlt3
          have hb3 := HW1.out.box.grown hgr (by rw [← Hv5.out]; exact hne1)
          have hk0 := hb3.cell 0
          have hk1 := hb3.cell 1
          have hkf := hb3.frozen 1
          have hkf0 := hb3.frozen 0
          simp only [List.getElem?_toArray, List.getElem?_cons_zero, List.getElem?_cons_succ] at hk0 hk1
          rw [Hv5.out] at hk1
          have ho3 : Only (WF b v1) wr w3 := (Only.refl _ _).grown hgr (fun k e => .inl (.inr (by rw [Hv5.out]; exact e)))
          have hown4 : (w3.setCell ⟨b, 1, none⟩ (.slice (some ⟨g3, 0, none⟩) (bs1.length + m.length) cap3)).ownsRow 0 5 1 (.slice (some ⟨g3, 0, none⟩) (bs1.length + m.length) cap3) (bs1.length + m.length) (bs1.map byt ++ m.map byt) :=
            owns_only hown3 ((Only.refl (Just b) w3).setCell (p := ⟨b, 1, none⟩) (.inl rfl) _) (fun q hq e => owns_box hown3 hb3 (by decide) (by rw [hq]; exact congrArg some e))
          have hb4 := hb3.put 1 (.slice (some ⟨g3, 0, none⟩) (bs1.length + m.length) cap3)
          have ho4 := ho3.setCell (p := ⟨b, 1, none⟩) (.inl (.inl rfl)) (.slice (some ⟨g3, 0, none⟩) (bs1.length + m.length) cap3)
          have hd0 := hb4.cell 0
          have hdf := hb4.frozen 0
          simp at hd0
          have HH := Lib.hid (And.intro hown4 (And.intro hb4 (And.intro ho4 hat)))
          clear hown3 hgr hat hb3 ho3 hown4 hb4 ho4
          go_wp2_with fail
          refine (forth_any _ L1.length _ _ hd0 hdf (by omega) (by omega)).mono ?_
          rintro e w5 ⟨rfl, rfl⟩
          go_wp2
          go_roundw
          case rel =>
            obtain ⟨hown4, hb4, ho4, hat⟩ := HH.out
            have hbm := Hbm.out
            refine ⟨i + 1, by omega, by go_num, ?_⟩
            rw [Hnext.out]
            refine WrTo.of Ho1.out Hm1.out ⟨.slice (some ⟨g3, 0, none⟩) (bs1.length + m.length) cap3, bs1 ++ m, ⟨?_, ?_, HW1.out.packs.full Ha8.out H256.out, ?_⟩, ?_, ?_⟩
            · have h9 := hb4.put 0 (.int .i64 ((L1.length + 8 * m.length : Nat) : Int))
              rw [List.length_append, hbm]
              rw [show ((L1.length + 8 * m.length : Nat) : Int) = (L1.length : Int) + 8 * (m.length : Int) from by omega] at h9 ⊢
              simpa using h9
            · rw [List.length_append, List.map_append]
              exact owns_only hown4 ((Only.refl (Just b) _).setCell (p := ⟨b, 0, none⟩) (.inl rfl) _) (fun q hq e => owns_box hown4 hb4 (by decide) (by rw [hq]; exact congrArg some e))
            · rw [List.length_append, hbm]; omega
            · exact ho4.setCell (p := ⟨b, 0, none⟩) (.inl (.inl rfl)) _
            · intro q hq
              simp [Value.ownBlock] at hq
              subst hq
              rcases hat with h5 | h5
              · exact .inl (by rw [Hv5.out]; exact h5)
              · exact .inr (by omega)
          case measure => simp [intOf]; omega
      · have hPb : ((padN L1.length : Int) == 0) = false := by rw [beq_eq_false_iff_ne]; omega
        generalize padN L1.length = P at *
        clear hP hc1 hf1 hne1
        have hst : WrTo w b v (L1 ++ bitsOf (m.take 0)) wr := by
          rw [List.take_zero, bitsOf_nil, List.append_nil]
          exact ⟨v1, bs1, HW1.out, Ho1.out, Hm1.out⟩
        have Hst := Lib.hid hst
        clear hst
        go_wp2_with fail
        refine (Hpad.out).mono ?_
        rintro e w2 ⟨rfl, rfl⟩
        clear Hpad HW1 Ho1 Hm1 Hv5 Hsrc
        go_wp2
        go_loopw [39] (fun s39 wi => AppIn w b v L1 m s39 wi) (fun s39 _ => m.length - (intOf s39).toNat)
        case atStart => exact ⟨0, Nat.zero_le _, rfl, Hst.out⟩
        case round =>
          obtain ⟨k, hk, rfl, v2, bs2, hW2, ho2, hm2⟩ := hrel
          by_cases hkl : k < m.length
          · have hb := (Hall.out _ ho2).2 k (byt m[k]) (by simp [hkl])
            unfold byt at hb
            have hy := H256.out _ (List.getElem_mem hkl)
            have hmt : L1 ++ bitsOf (m.take (k + 1)) = (L1 ++ bitsOf (m.take k)) ++ bitsN 8 m[k] := by
              rw [List.take_succ_eq_append_getElem hkl, bitsOf_append, bitsOf_cons, bitsOf_nil, List.append_nil, List.append_assoc]
            have Hmt := Lib.hid hmt
            have hL2 : (L1 ++ bitsOf (m.take k)).length ≤ 281474976710656 := by rw [List.length_append, bitsOf_len, List.length_take]; omega
            have hnum := number_any hW2 8 (m[k] : Int) (by omega) (by omega)
            have ey : ((m[k] : Int) % 2 ^ 8).toNat = m[k] := by omega
            rw [ey] at hnum
            have Hn := Lib.hid hnum
            clear hmt hnum ey
            generalize m[k] = y at *
            have hkl2 : (k : Int) < (m.length : Int) := by omega
            go_wp2_with fail
            refine (Hn.out).mono ?_
            rintro e w4 ⟨v4, bs4, rfl, hW4⟩
            go_wp2
            go_roundw
            case rel =>
              refine ⟨k + 1, by omega, by go_num, ?_⟩
              rw [Hmt.out]
              exact WrTo.of ho2 hm2 ⟨v4, bs4, hW4⟩
            case measure => simp [intOf]; omega
          · obtain rfl : k = m.length := by omega
            have hkl2 : decide ((m.length : Int) < (m.length : Int)) = false := by simp
            go_wp2
            go_roundw
            case rel =>
              refine ⟨i + 1, by omega, by go_num, ?_⟩
              rw [Hnext.out]
              have h9 : WrTo w b v (L1 ++ bitsOf (m.take m.length)) wr := ⟨v2, bs2, hW2, ho2, hm2⟩
              rw [List.take_length] at h9
              exact h9
            case measure => simp [intOf]; omega
    · obtain rfl : i = ll.length := by omega
      have hlt2 : decide ((ll.length : Int) < (ll.length : Int)) = false := by simp
      have hfin : WrTo w b v (L ++ bitsOf ll.flatten) wr := by
        have : WrTo w b v (L ++ bitsOf (ll.take ll.length).flatten) wr := ⟨v1, bs1, hW1, ho1, hm1⟩
        rw [List.take_length] at this
        exact this
      have Hfin := Lib.hid hfin
      clear hfin
      go_wp2
      go_end0
      exact ⟨rfl, Hfin.out⟩
end Go.Proofs.YteklfkpeaadinaaGreatDoor
namespace Go.Proofs.YteklfkpeaadinaaGreatDoor
open Go.RowKit

theorem Fine.isP {m o s P S : Nat} {ps bs l : List Int} (hF : Fine m o s P S ps bs l) (k : Nat) (hk : k < P) : isP m (ps.getD k 0) (bs.getD k 0) := by
  have := hF.all k (by rw [hF.np]; exact hk) (by rw [hF.nb]; exact hk)
  rw [List.getD_eq_getElem?_getD, List.getElem?_eq_getElem (by rw [hF.np]; exact hk), List.getD_eq_getElem?_getD, List.getElem?_eq_getElem (by rw [hF.nb]; exact hk)]
  exact this
theorem Parse.det {bs : List Nat} {a b s m o m' o' : Nat} {rs rs' : List (Int × Int × List Int)} {a1 a2 : Nat} (h : Parse bs a b s m o rs a1) (k : Parse bs a b s m' o' rs' a2) : m = m' ∧ o = o' ∧ rs = rs' ∧ a1 = a2 := by
  obtain ⟨h1, h2⟩ := h
  obtain ⟨k1, k2⟩ := k
  obtain ⟨_, e1, _, _, e2, _⟩ := h1
  obtain ⟨_, e3, _, _, e4, _⟩ := k1
  obtain rfl : m = m' := by rw [e1, e3]
  obtain rfl : o = o' := by rw [e2, e4]
  obtain ⟨e5, e6⟩ := h2.det k2
  exact ⟨rfl, rfl, e5, e6⟩
theorem lists_lit (w : World) (b : Nat) (v : Value) (x : Nat) (hx : x < 256) (hb : b < w.heap.size) (hv : ∀ g, v.ownBlock = some g → g < w.heap.size) :
    Lists ((w.alloc (.cells #[.int .u8 (x : Int)] 5)).alloc (.cells #[.slice (some ⟨w.heap.size, 0, none⟩) 1 1] 39)) (WF b v) (.slice (some ⟨w.heap.size + 1, 0, none⟩) 1 1) [[x]] := by
  have B0 := (Box.new w 5 #[.int .u8 (x : Int)]).alloc (.cells #[.slice (some ⟨w.heap.size, 0, none⟩) 1 1] 39)
  have B1 := Box.new (w.alloc (.cells #[.int .u8 (x : Int)] 5)) 39 #[.slice (some ⟨w.heap.size, 0, none⟩) 1 1]
  rw [World.size_alloc] at B1
  have n0 : ¬ WF b v w.heap.size := by
    rintro (e | e)
    · omega
    · have := hv _ e; omega
  have n1 : ¬ WF b v (w.heap.size + 1) := by
    rintro (e | e)
    · omega
    · have := hv _ e; omega
  refine ⟨_, 1, rfl, fun j hj => ?_⟩
  obtain rfl : j = 0 := by simp at hj; omega
  refine ⟨_, 0, ⟨w.heap.size, 0, none⟩, 1, rfl, by simp, by simp, by simpa using hx, fun w' ho => ⟨?_, fun k u hu => ?_⟩⟩
  · rw [(B1.only ho n1).cell]; rfl
  · obtain rfl : k = 0 := by
      have := (List.getElem?_eq_some_iff.1 hu).1
      simp at this
      omega
    rw [Addr.add_lit, (B0.only ho n0).cell]
    simp [byt] at hu ⊢
    exact hu
theorem block_bound {m o s P S : Nat} {ps bs l : List Int} (hF : Fine m o s P S ps bs l) : (blockB S s P m o ps bs l).length ≤ 6 + 4294967400 * (P * S) := by
  have hone : ∀ k, k < P → (partB m (ps.getD k 0) (bs.getD k 0) (pt S s l k)).length ≤ 4294967400 * S := fun k hkk => by
    have hw := frm_width S s k
    have hl1 := (frm_step S s k hF.lt).1
    have hl2 := pt_len S s P l k hF.lt hkk hF.eq
    rw [partB_len m _ _ (hF.isP k hkk)]
    have h2 := szP_bound m (ps.getD k 0) (bs.getD k 0) ((pt S s l k).map fd) hF.m1 (hF.isP k hkk) (by rw [List.length_map, hl2]; omega) (fun y hy => by
      obtain ⟨z, hz, rfl⟩ := List.mem_map.1 hy
      exact fd_lt (hF.res z (List.mem_of_mem_drop (List.mem_of_mem_take hz))))
    rw [List.length_map, hl2] at h2
    have := Nat.mul_le_mul_left 4294967400 hw
    omega
  have hsum : ∀ ks : List Nat, (∀ k ∈ ks, k < P) → (ks.flatMap fun k => partB m (ps.getD k 0) (bs.getD k 0) (pt S s l k)).length ≤ 4294967400 * (ks.length * S) := by
    intro ks
    induction ks with
    | nil => intro _; simp
    | cons k ks ih =>
      intro hk
      have h1 := ih (fun j hj => hk j (List.mem_cons_of_mem _ hj))
      have h2 := hone k (hk k (List.mem_cons_self ..))
      rw [List.flatMap_cons, List.length_append, List.length_cons]
      have e : (ks.length + 1) * S = ks.length * S + S := Nat.succ_mul _ _
      omega
  have h3 := hsum (List.range P) (fun k hk => List.mem_range.1 hk)
  rw [List.length_range] at h3
  unfold blockB
  rw [List.length_append, List.length_append, bitsN_len, bitsN_len]
  omega
theorem apart_new {w : World} {v0 : Value} {xs : List Int} {b : Nat} (h : ISrc w v0 xs) (hb : w.heap.size ≤ b) : Apart v0 b (.slice none 0 0) := fun ad n c e hn => by
  subst e
  have hl := h.len
  obtain ⟨ad2, e3, hc⟩ := h.at_ (k := 0) (by omega)
  injection e3 with e3
  subst e3
  have := World.block_lt_of_cell? w _ hc
  rw [add_block] at this
  exact ⟨by omega, by simp [Value.ownBlock]⟩
def AppP (Wa : World) (b : Nat) (L : List Nat) (n : Nat) (s11 : Value) (wr : World) : Prop :=
  ∃ (i : Nat) (X : List Nat) (v : Value) (bs : List Nat), i ≤ n ∧ s11 = iv i ∧ X.length = 8 * i ∧ Wr wr b v bs (L ++ X) ∧ (∀ g, v.ownBlock = some g → Wa.heap.size ≤ g) ∧ Only Nix Wa wr
end Go.Proofs.YteklfkpeaadinaaGreatDoor
namespace Go.Proofs.YteklfkpeaadinaaGreatDoor
open Go.ChangeShapes Go.WideShapes Go.ChangeAt Go.RowKit Go.Joins

end Go.Proofs.YteklfkpeaadinaaGreatDoor
