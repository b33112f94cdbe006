/-
  Package header, Read.
-/
import Derived.Test.YteahiigfclabfaaDoorHF
import Derived.Outline
namespace Go.Proofs.YteahiigfclabfaaDoor.H
open Go.RowKit

theorem Rt.alloc' {W0 u : World} {r a : Nat} {bs : List Nat} (h : Rt W0 r bs a u) (o : Obj) : Rt W0 r bs a (u.alloc o) := h.nix ((Only.refl Nix u).alloc o)
theorem src_of {w : World} {A : Option Addr} {n c : Nat} {bs : List Nat} (h : U.Src w (.slice A n c) bs) (hN : A = none → c = 0) : Src w (.slice A n c) bs := by
  obtain ⟨A', c', hv, hc⟩ := h.form
  injection hv with e1 e2 e3
  subst e1 e2 e3
  refine ⟨?_, h.small⟩
  cases A with
  | none =>
    refine .inl ?_
    rw [hN rfl]
    cases bs with
    | nil => exact ⟨rfl, rfl⟩
    | cons x r =>
      obtain ⟨ad, e, _⟩ := hc 0 (by simp)
      cases e
  | some ad =>
    refine .inr ⟨ad, c, rfl, fun j u hj => ?_⟩
    obtain ⟨hl, hx⟩ := List.getElem?_eq_some_iff.1 hj
    have hl2 : j < bs.length := by simpa using hl
    obtain ⟨ad', e, hx2⟩ := hc j hl2
    injection e with e
    subst e
    rw [hx2, ← hx]
    simp
set_option maxHeartbeats 400000 in
theorem newReader_rt {w : World} {v0 : Value} {bs : List Nat} (h : Src w v0 bs) (hlt : ∀ x ∈ bs, x < 256) :
    Calls Tryd.prog 43 #[v0] w fun e w' => ∃ r, e = .returned (.pointer (some ⟨r, 0, none⟩)) ∧ Rt w r bs 0 w' := by
  have Hc := Lib.hid (clone_any h)
  have hsm := h.small
  clear h
  go_enter Tryd.func43, Tryd.ntmps43
  go_wp2_with fail
  refine (Hc.out).mono ?_
  rintro e w1 ⟨v, rfl, hown, ho⟩
  have hsz := ho.size
  obtain ⟨A, c, rfl⟩ := owns_slice hown
  have Hown := Lib.hid hown
  clear hown
  go_wp2
  go_ret
  have hown := Hown.out
  refine ⟨w1.heap.size, rfl, _, ⟨Box.new _ _ _, ?_, hlt, by omega, hsm⟩, ho.alloc _, hsz, fun g hg => ⟨(hown.lt g hg).1, (hown.lt g hg).2⟩⟩
  have h2 := hown.alloc (.cells #[Value.int IntKind.i64 0, .slice A bs.length c] 103)
  refine ⟨h2.1, ?_⟩
  rcases h2.2 with h3 | ⟨g, cap, cur, a1, a2, a3⟩
  · exact .inl h3
  · exact .inr ⟨g, cap, cur, a1, Nat.zero_le _, a3⟩
theorem header_any {W0 U0 : World} (hL : LaidH W0) {r : Nat} {bs : List Nat} (h : Rt W0 r bs 0 U0) (A : Option Addr) (m c : Nat) (hs : U.Src W0 (.slice A m c) bs) (hmc : m ≤ c) :
    Calls Tryd.prog 44 #[rdv r A m c] U0 (fun e u' => ∃ x : Hd, e = .returned (.tuple #[hv x, iv (hdE bs)]) ∧ Only (Just r) U0 u' ∧ (hdE bs = 0 → x = hdX bs ∧ Rt W0 r bs (rP3 bs + 8) u')) := header_raw hL h A m c hs hmc
def rdE (bs : List Nat) : Int := hdE (bs.take 16)
def rdX (bs : List Nat) : Hd := if rdE bs = 0 then hdX (bs.take 16) else hd0
def rdN (bs : List Nat) : Int := if rdE bs = 0 then ((rP3 (bs.take 16) + 8 : Nat) : Int) / 8 else 0
/-- a region's world: one block's row is stored by operation 5 -/
structure RS6 (w : World) (b : Nat) (X Z : Array Value) (L : Nat → Bool) (x : World) : Prop where
  on : Only (Just b) w x
  bx : Box x b 23 (if L 5 = true then X else Z)
section
variable {w x x' : World} {b i : Nat} {X Z : Array Value} {L : Nat → Bool}
theorem RS6.nix (h : RS6 w b X Z L x) (ho : Only Nix x x') : RS6 w b X Z L x' := ⟨h.on.trans ho.nix, h.bx.only ho (fun e => e)⟩
theorem RS6.same (hi : (i != 5) = true) (h : RS6 w b X Z L x) : RS6 w b X Z (andOne L i) x := by
  refine ⟨h.on, ?_⟩
  rw [andOne_ne (fun e => by rw [← e] at hi; simp at hi)]
  exact h.bx
theorem RS6.row (h : RS6 w b X Z L x) (hw : Box x' b 23 X) (ho : Only (Just b) x x') : RS6 w b X Z (andOne L 5) x' := by
  refine ⟨h.on.trans ho, ?_⟩
  rw [andOne_self, if_pos rfl]
  exact hw
end
set_option maxRecDepth 100000 in
set_option maxHeartbeats 16000000 in
theorem read_any {w : World} (hL : LaidH w) (A : Option Addr) (n c : Nat) (bs : List Nat) (hs : U.Src w (.slice A n c) bs) (hnc : n ≤ c) (hN : A = none → c = 0) :
    Calls Tryd.prog 15 #[.slice A n c] w fun e w' => e = .returned (.tuple #[hv (rdX bs), iv (rdN bs), iv (rdE bs)]) ∧ Only Nix w w' := by
  have hE : rdE bs = hdE (bs.take 16) := rfl
  have hX : rdX bs = if hdE (bs.take 16) = 0 then hdX (bs.take 16) else hd0 := rfl
  have hNn : rdN bs = if hdE (bs.take 16) = 0 then ((rP3 (bs.take 16) + 8 : Nat) : Int) / 8 else 0 := rfl
  have hlt : ∀ x ∈ bs.take 16, x < 256 := fun x hx => hs.lt x (List.mem_of_mem_take hx)
  have hTk : ∀ K, K = min n 16 → ∀ x, Only Nix w x → U.Src x (.slice A K c) (bs.take 16) := fun K hK x hx => by
    have e := src_takeA (m := K) (d := c) (hs.nix hx) (by omega)
    have hl := hs.len
    rwa [show bs.take K = bs.take 16 from by rw [hK, hl]; by_cases h : bs.length ≤ 16; rw [Nat.min_eq_left h, List.take_length, List.take_of_length_le h]; rw [Nat.min_eq_right (by omega)]] at e
  have hl16 : (bs.take 16).length ≤ 16 := List.length_take_le _ _
  have HTk := Lib.hid hTk
  have HLt := Lib.hid hlt
  clear hTk hlt hs
  rw [hE]
  generalize rdE bs = E0 at *
  generalize rdX bs = X0 at *
  generalize rdN bs = N0 at *
  generalize bs.take 16 = cs at *
  have hSN : ∀ v0 x, Src x v0 cs → Calls Tryd.prog 43 #[v0] x fun e w' => ∃ r, e = .returned (.pointer (some ⟨r, 0, none⟩)) ∧ Rt x r cs 0 w' := fun v0 x hx => newReader_rt hx HLt.out
  have HSN := Lib.hid hSN
  have HSH : Hid (∀ W0 U0 r K, LaidH W0 → Rt W0 r cs 0 U0 → U.Src W0 (.slice A K c) cs → K ≤ c → Calls Tryd.prog 44 #[rdv r A K c] U0 (fun e u' => ∃ x : Hd, e = .returned (.tuple #[hv x, iv (hdE cs)]) ∧ Only (Just r) U0 u' ∧ (hdE cs = 0 → x = hdX cs ∧ Rt W0 r cs (rP3 cs + 8) u'))) := Lib.hid (fun W0 U0 r K h1 h2 h3 h4 => header_any h1 h2 A K c h3 h4)
  have HX := Lib.hid hX
  have HNn := Lib.hid hNn
  clear hSN hX hNn hE
  generalize hdE cs = E at *
  generalize hdX cs = XX at *
  have HPb : Hid (∀ W0 r x, Rt W0 r cs (rP3 cs + 8) x → rP3 cs + 8 ≤ 8 * cs.length) := Lib.hid (fun W0 r x h => h.le)
  generalize rP3 cs + 8 = p4 at *
  have hO1 := (Only.refl Nix w).alloc (.cells (hc hd0) 23)
  have hB1 := Box.new w 23 (hc hd0)
  have HL1 := Lib.hid (hL.nix hO1)
  have hsz1 : (w.alloc (.cells (hc hd0) 23)).heap.size = w.heap.size + 1 := by simp
  generalize hW1 : w.alloc (.cells (hc hd0) 23) = W1 at *
  have BX := Lib.hid hB1
  have HO := Lib.hid hO1
  have HN := Lib.hid hN
  simp only [hc, hd0] at hW1
  clear hO1 hB1 hL hN
  rcases Nat.lt_trichotomy n 16 with hlt16 | rfl | hlt16
  · skip
    have hq : (n : Int) < 16 := by omega
    have HS1 := Lib.hid (HTk.out n (by omega) W1 HO.out)
    have hKc : n ≤ c := by omega
    have HKc := Lib.hid hKc
    have hKci : ((n : Nat) : Int) ≤ (c : Int) := by omega
    have HN1 := Lib.hid (HSN.out _ W1 (src_of HS1.out HN.out))
    clear hKc
    go_enter Tryd.func15, Tryd.ntmps15
    go_wp2_with fail
    refine (HN1.out).mono ?_
    rintro _ u1 ⟨r, rfl, hr⟩
    have hrm := hr.mem
    have hrg := hr.ge
    have HR := Lib.hid hr
    have BX1 := Lib.hid (BX.out.only hr.only (fun e => e))
    have HO1 := Lib.hid (HO.out.trans hr.only)
    have hu1 : (u1.alloc (.cells (rdc r A n c) 79)).heap.size = u1.heap.size + 1 := by simp
    have BR2 := Lib.hid (Box.new u1 79 (rdc r A n c))
    have HR2 := Lib.hid (HR.out.alloc' (.cells (rdc r A n c) 79))
    have BX2 := Lib.hid (BX1.out.alloc (.cells (rdc r A n c) 79))
    have HO2 := Lib.hid (HO1.out.alloc (.cells (rdc r A n c) 79))
    have HHd := Lib.hid (HSH.out W1 _ r n HL1.out HR2.out HS1.out HKc.out)
    generalize hU2 : u1.alloc (.cells (rdc r A n c) 79) = u2 at *
    have hu2 : u1.heap.size < u2.heap.size := by omega
    clear hr HN1 HR BX1 HO1 HSH
    simp only [rdv, rdc] at *
    go_wp2_with (refine wpList_load_row rfl 79 (.tmp 5) rfl u1.heap.size rfl 79 _ (0, 0) _ BR2.out Tryd.underlying79 rfl Tryd.size_reader ?_)
    refine (HHd.out).mono ?_
    rintro _ u3 ⟨x, rfl, ho3, hr3⟩
    have HR3 := Lib.hid hr3
    have hg3 := HR2.out.mem
    have BX3 := Lib.hid (BX2.out.only ho3 (fun e => by have e2 : w.heap.size = r := e; omega))
    have BR3 := Lib.hid (BR2.out.only ho3 (fun e => by have e2 : u1.heap.size = r := e; omega))
    have ho3' : Only Nix w u3 := HO2.out.then ho3 (fun k e => .inr (by rw [show k = r from e]; omega))
    have hu3 : u1.heap.size < u3.heap.size := by have := ho3.size; omega
    have HO3 := Lib.hid ho3'
    have HB6 := Lib.hid (Box.new u3 23 (hc hd0))
    have hxv : hv x = .agg (hc x) := rfl
    rw [hxv]
    clear hr3 ho3 ho3' HHd hxv
    go_wp2_with (refine wpList_store_row rfl 23 (.tmp 6) (.tmp 20) rfl rfl u3.heap.size 23 (hc hd0) (hc x) rfl rfl HB6.out Tryd.size_header rfl (hc_one _) ?st2)
    case st2 =>
      intro u4 hbz hoz
      have B64 := Lib.hid hbz
      have bx4 := (BX3.out.alloc (.cells (hc hd0) 23)).only hoz (fun e => by have e2 : w.heap.size = u3.heap.size := e; have := HO3.out.size; omega)
      have br4 := (BR3.out.alloc (.cells (hc hd0) 23)).only hoz (fun e => by have e2 : u1.heap.size = u3.heap.size := e; omega)
      have ho4 : Only Nix w u4 := (HO3.out.alloc (.cells (hc hd0) 23)).then hoz (fun k e => .inr (by rw [show k = u3.heap.size from e]; exact HO3.out.size))
      have BX4 := Lib.hid bx4
      have BR4 := Lib.hid br4
      have HO4 := Lib.hid ho4
      have hon := Lib.hid hoz
      have hw3 := Lib.hid HO3.out.size
      clear hbz hoz bx4 br4 ho4 HB6 BX3 BR3 BX2 BR2
      by_cases hE : E = 0
      · obtain ⟨e1, hr4⟩ := HR3.out hE
        have e1s := e1.symm
        subst e1s hE
        have hX0 : X0 = XX := by rw [HX.out, if_pos rfl]
        have hN0 : N0 = (p4 : Int) / 8 := by rw [HNn.out, if_pos rfl]
        subst hX0 hN0
        have hpb := HPb.out _ _ _ hr4
        have hcr : u4.cell? ⟨r, 0, none⟩ = some (iv (p4 : Int)) := by
          obtain ⟨v, h1, _⟩ := hr4
          exact U.cell_only hon.out (U.cell_keep ((Only.refl Nix u3).alloc _) h1.cell0) (fun e => by have e2 : r = u3.heap.size := e; omega)
        have hw1 : IntKind.i64.wrap ((p4 : Int) / 8) = (p4 : Int) / 8 := wraps_i64 _ (by omega) (by omega)
        have HCr := Lib.hid hcr
        have HW1 := Lib.hid hw1
        clear hr4 hpb hcr hw1 e1
        obtain ⟨C, hC⟩ : ∃ C, hc X0 = C := ⟨_, rfl⟩
        have hsz9 : C.size = 9 := by rw [← hC]; rfl
        have hone : C.all (·.oneCell') = true := by rw [← hC]; exact hc_one _
        have HXc : Hid (hv X0 = .agg C) := Lib.hid (by rw [← hC]; rfl)
        rw [hC] at B64
        have hw1 := HW1.out
        go_wp2
        have n6 : Hid (¬ Just w.heap.size u3.heap.size) := Lib.hid (fun e => by have e2 : u3.heap.size = w.heap.size := e; have := hw3.out; omega)
        have n5 : Hid (¬ Just w.heap.size u1.heap.size) := Lib.hid (fun e => by have e2 : u1.heap.size = w.heap.size := e; omega)
        have nr : Hid (¬ Just w.heap.size r) := Lib.hid (fun e => by have e2 : r = w.heap.size := e; omega)
        have fr_Rd : ∀ j s, j < 8 → (([some 26, some 27, some 28, some 29, some 30, none, some 3, some 4] : List (Option Nat)).all fun d => d != some s) = true → ([some 26, some 27, some 28, some 29, some 30, none, some 3, some 4] : List (Option Nat)).getD j none ≠ some s := by
          intro j s hj ha e
          rw [List.getD_eq_getElem?_getD, List.getElem?_eq_getElem (by exact hj), Option.getD_some] at e
          have := List.all_eq_true.1 ha _ (List.getElem_mem (by exact hj))
          rw [e] at this
          simp at this
        refine region_tel (by kernel_rfl) (fun k0 => ([some 26, some 27, some 28, some 29, some 30, none, some 3, some 4] : List (Option Nat)).getD k0 none) (PL [eqP (.agg C),
              eqP (.pointer (some ⟨u1.heap.size, 0, none⟩)),
              eqP (.pointer (some ⟨r, 0, none⟩)),
              eqP (iv (p4 : Nat)),
              eqP (iv ((p4 : Int) / 8)),
              (fun _ _ => True),
              eqP (iv ((p4 : Int) / 8)),
              eqP (iv 0)]) (fun x y => Only (Just w.heap.size) x y) (fun L x => RS6 u4 w.heap.size C (hc hd0) L x) 31 8 rfl (by kernel_rfl) (by kernel_rfl) rfl (by kernel_rfl) (by kernel_rfl) (stab_all ⟨fun _ _ _ h _ => h, fun _ _ _ h _ => h, fun _ _ _ h _ => h, fun _ _ _ h _ => h, fun _ _ _ h _ => h, fun _ _ _ _ _ => trivial, fun _ _ _ h _ => h, fun _ _ _ h _ => h, trivial⟩) (⟨(Only.refl _ _).drew, BX4.out.only (Only.refl Nix _).drew (fun e => e)⟩) ?stepsRd (fun vs => [(26, vs 0), (27, vs 1), (28, vs 2), (29, vs 3), (30, vs 4), (3, vs 6), (4, vs 7)]) (fun vs => rfl) ?doneRd
        case stepsRd =>
          refine ⟨?_, ?_, ?_, ?_, ?_, ?_, ?_, ?_, trivial⟩
          · intro L vs A' u hW hL0 hnd K' hK
            have hS := hW.wi.s
            have r6 : A'.tmps[6]? = some (.pointer (some ⟨u3.heap.size, 0, none⟩)) := (hW.out 6 (fun j hj => fr_Rd j 6 hj (by kernel_rfl))).trans rfl
            have hb6 := B64.out.only hS.on n6.out
            refine wp_load_row 23 (.tmp 6) rfl u3.heap.size (eval_tmp r6) 23 _ (0, 0) _ hb6 Tryd.underlying23 rfl (by rw [hsz9]; exact Tryd.size_header) ?_
            exact hK _ _ rfl (Only.refl _ _) (RS6.same rfl hS)
          · intro L vs A' u hW hL0 hnd K' hK
            have hS := hW.wi.s
            have r5 : A'.tmps[5]? = some (.pointer (some ⟨u1.heap.size, 0, none⟩)) := (hW.out 5 (fun j hj => fr_Rd j 5 hj (by kernel_rfl))).trans rfl
            go_simp
            exact hK _ _ (by first | rfl | (show _ = _; simp)) (Only.refl _ _) (RS6.same rfl hS)
          · intro L vs A' u hW hL0 hnd K' hK
            have hS := hW.wi.s
            have r27 : A'.tmps[27]? = some (.pointer (some ⟨u1.heap.size, 0, none⟩)) := by
              obtain ⟨x, e, h⟩ := hW.tel 1 27 (by decide) (hnd 1 (by kernel_rfl)) rfl
              rw [e]; exact congrArg some h
            have hbr := BR4.out.only hS.on n5.out
            have hcc : u.cell? ⟨u1.heap.size, 0, none⟩ = some (.pointer (some ⟨r, 0, none⟩)) := hbr.cell 0
            go_simp
            exact hK _ _ rfl (Only.refl _ _) (RS6.same rfl hS)
          · intro L vs A' u hW hL0 hnd K' hK
            have hS := hW.wi.s
            have r28 : A'.tmps[28]? = some (.pointer (some ⟨r, 0, none⟩)) := by
              obtain ⟨x, e, h⟩ := hW.tel 2 28 (by decide) (hnd 2 (by kernel_rfl)) rfl
              rw [e]; exact congrArg some h
            have HCL := Lib.hid (at_any r p4 u (U.cell_only hS.on HCr.out nr.out))
            go_simp
            refine (HCL.out).mono ?_
            rintro _ u' ⟨rfl, rfl⟩
            exact hK _ _ rfl (Only.refl _ _) (RS6.same rfl hS)
          · intro L vs A' u hW hL0 hnd K' hK
            have hS := hW.wi.s
            have r29 : A'.tmps[29]? = some (iv (p4 : Nat)) := by
              obtain ⟨x, e, h⟩ := hW.tel 3 29 (by decide) (hnd 3 (by kernel_rfl)) rfl
              rw [e]; exact congrArg some h
            go_simp
            exact hK _ _ (by first | rfl | (show _ = _; simp)) (Only.refl _ _) (RS6.same rfl hS)
          · intro L vs A' u hW hL0 hnd K' hK
            have hS := hW.wi.s
            have r2 : A'.tmps[2]? = some (.pointer (some ⟨w.heap.size, 0, none⟩)) := (hW.out 2 (fun j hj => fr_Rd j 2 hj (by kernel_rfl))).trans rfl
            have r26 : A'.tmps[26]? = some (.agg C) := by
              obtain ⟨x, e, h⟩ := hW.tel 0 26 (by decide) (hnd 0 (by kernel_rfl)) rfl
              rw [e]; exact congrArg some h
            have hb0 := hS.bx
            rw [hL0] at hb0
            refine wp_store_row 23 (.tmp 2) (.tmp 26) rfl w.heap.size 23 (hc hd0) C (eval_tmp r2) (eval_tmp r26) hb0 (by rw [hsz9]; exact Tryd.size_header) (by rw [hsz9]; rfl) hone ?_
            intro wz hbz hoz
            exact hK undef _ trivial hoz (RS6.row hS hbz hoz)
          · intro L vs A' u hW hL0 hnd K' hK
            have hS := hW.wi.s
            have r30 : A'.tmps[30]? = some (iv ((p4 : Int) / 8)) := by
              obtain ⟨x, e, h⟩ := hW.tel 4 30 (by decide) (hnd 4 (by kernel_rfl)) rfl
              rw [e]; exact congrArg some h
            go_simp
            exact hK _ _ (by first | rfl | (show _ = _; simp)) (Only.refl _ _) (RS6.same rfl hS)
          · intro L vs A' u hW hL0 hnd K' hK
            have hS := hW.wi.s
            go_simp
            exact hK _ _ (by first | rfl | (show _ = _; simp)) (Only.refl _ _) (RS6.same rfl hS)
        case doneRd =>
          intro L vs u5 hS hP hall
          have e6 : vs 6 = iv ((p4 : Int) / 8) := hP 6 (by decide)
          have e7 : vs 7 = iv 0 := hP 7 (by decide)
          have hbx := hS.bx
          rw [hall 5 (by decide), if_pos rfl] at hbx
          have OW : Hid (Only Nix w u5) := Lib.hid (HO4.out.then hS.on (fun k e => .inr (by rw [show k = w.heap.size from e]; omega)))
          subst hC
          have HLd := Lib.hid hbx
          clear hS hP hall fr_Rd hbx hone hsz9
          simp only [putV, List.foldl_cons, List.foldl_nil, List.setIfInBounds_toArray, List.set_cons_zero, List.set_cons_succ]
          rw [e6, e7]
          clear e6 e7
          generalize vs 0 = y0, vs 1 = y1, vs 2 = y2, vs 3 = y3, vs 4 = y4, vs 5 = y5
          go_wp2
          refine bodyPost_ret (v := .tuple #[hv X0, iv ((p4 : Int) / 8), iv 0]) ?_ rfl ?_
          · have hb := HLd.out
            have k0 := hb.cell 0
            have k1 := hb.cell 1
            have k2 := hb.cell 2
            have k3 := hb.cell 3
            have k4 := hb.cell 4
            have k5 := hb.cell 5
            have k6 := hb.cell 6
            have k7 := hb.cell 7
            have k8 := hb.cell 8
            simp only [hc, List.getElem?_toArray, List.getElem?_cons_zero, List.getElem?_cons_succ] at k0 k1 k2 k3 k4 k5 k6 k7 k8
            simp [results, Tryd.f15, go_sem, k0, k1, k2, k3, k4, k5, k6, k7, k8, hv, hc]
          · exact ⟨rfl, OW.out⟩
      · have hX0 : X0 = hd0 := by rw [HX.out, if_neg hE]
        have hN0 : N0 = 0 := by rw [HNn.out, if_neg hE]
        subst hX0 hN0
        go_wp2_with (refine wpList_store_row rfl 23 (.tmp 2) (.tmp 24) rfl rfl w.heap.size 23 (hc hd0) (hc hd0) rfl rfl BX4.out Tryd.size_header rfl (hc_one _) ?st3)
        case st3 =>
          intro u5 hbz hoz
          have HLd := Lib.hid hbz
          have OW : Hid (Only Nix w u5) := Lib.hid (HO4.out.then hoz (fun k e => .inr (by rw [show k = w.heap.size from e]; omega)))
          clear hbz hoz
          go_wp2
          refine bodyPost_ret (v := .tuple #[hv hd0, iv 0, iv E]) ?_ rfl ?_
          · have hb := HLd.out
            have k0 := hb.cell 0
            have k1 := hb.cell 1
            have k2 := hb.cell 2
            have k3 := hb.cell 3
            have k4 := hb.cell 4
            have k5 := hb.cell 5
            have k6 := hb.cell 6
            have k7 := hb.cell 7
            have k8 := hb.cell 8
            simp only [hc, hd0, List.getElem?_toArray, List.getElem?_cons_zero, List.getElem?_cons_succ] at k0 k1 k2 k3 k4 k5 k6 k7 k8
            simp [results, Tryd.f15, go_sem, k0, k1, k2, k3, k4, k5, k6, k7, k8, hv, hc, hd0]
          · exact ⟨rfl, OW.out⟩
  · skip
    skip
    have HS1 := Lib.hid (HTk.out 16 (by omega) W1 HO.out)
    have hKc : 16 ≤ c := by omega
    have HKc := Lib.hid hKc
    have hKci : ((16 : Nat) : Int) ≤ (c : Int) := by omega
    have HN1 := Lib.hid (HSN.out _ W1 (src_of HS1.out HN.out))
    clear hKc
    go_enter Tryd.func15, Tryd.ntmps15
    go_wp2_with fail
    refine (HN1.out).mono ?_
    rintro _ u1 ⟨r, rfl, hr⟩
    have hrm := hr.mem
    have hrg := hr.ge
    have HR := Lib.hid hr
    have BX1 := Lib.hid (BX.out.only hr.only (fun e => e))
    have HO1 := Lib.hid (HO.out.trans hr.only)
    have hu1 : (u1.alloc (.cells (rdc r A 16 c) 79)).heap.size = u1.heap.size + 1 := by simp
    have BR2 := Lib.hid (Box.new u1 79 (rdc r A 16 c))
    have HR2 := Lib.hid (HR.out.alloc' (.cells (rdc r A 16 c) 79))
    have BX2 := Lib.hid (BX1.out.alloc (.cells (rdc r A 16 c) 79))
    have HO2 := Lib.hid (HO1.out.alloc (.cells (rdc r A 16 c) 79))
    have HHd := Lib.hid (HSH.out W1 _ r 16 HL1.out HR2.out HS1.out HKc.out)
    generalize hU2 : u1.alloc (.cells (rdc r A 16 c) 79) = u2 at *
    have hu2 : u1.heap.size < u2.heap.size := by omega
    clear hr HN1 HR BX1 HO1 HSH
    simp only [rdv, rdc] at *
    go_wp2_with (refine wpList_load_row rfl 79 (.tmp 5) rfl u1.heap.size rfl 79 _ (0, 0) _ BR2.out Tryd.underlying79 rfl Tryd.size_reader ?_)
    refine (HHd.out).mono ?_
    rintro _ u3 ⟨x, rfl, ho3, hr3⟩
    have HR3 := Lib.hid hr3
    have hg3 := HR2.out.mem
    have BX3 := Lib.hid (BX2.out.only ho3 (fun e => by have e2 : w.heap.size = r := e; omega))
    have BR3 := Lib.hid (BR2.out.only ho3 (fun e => by have e2 : u1.heap.size = r := e; omega))
    have ho3' : Only Nix w u3 := HO2.out.then ho3 (fun k e => .inr (by rw [show k = r from e]; omega))
    have hu3 : u1.heap.size < u3.heap.size := by have := ho3.size; omega
    have HO3 := Lib.hid ho3'
    have HB6 := Lib.hid (Box.new u3 23 (hc hd0))
    have hxv : hv x = .agg (hc x) := rfl
    rw [hxv]
    clear hr3 ho3 ho3' HHd hxv
    go_wp2_with (refine wpList_store_row rfl 23 (.tmp 6) (.tmp 20) rfl rfl u3.heap.size 23 (hc hd0) (hc x) rfl rfl HB6.out Tryd.size_header rfl (hc_one _) ?st2)
    case st2 =>
      intro u4 hbz hoz
      have B64 := Lib.hid hbz
      have bx4 := (BX3.out.alloc (.cells (hc hd0) 23)).only hoz (fun e => by have e2 : w.heap.size = u3.heap.size := e; have := HO3.out.size; omega)
      have br4 := (BR3.out.alloc (.cells (hc hd0) 23)).only hoz (fun e => by have e2 : u1.heap.size = u3.heap.size := e; omega)
      have ho4 : Only Nix w u4 := (HO3.out.alloc (.cells (hc hd0) 23)).then hoz (fun k e => .inr (by rw [show k = u3.heap.size from e]; exact HO3.out.size))
      have BX4 := Lib.hid bx4
      have BR4 := Lib.hid br4
      have HO4 := Lib.hid ho4
      have hon := Lib.hid hoz
      have hw3 := Lib.hid HO3.out.size
      clear hbz hoz bx4 br4 ho4 HB6 BX3 BR3 BX2 BR2
      by_cases hE : E = 0
      · obtain ⟨e1, hr4⟩ := HR3.out hE
        have e1s := e1.symm
        subst e1s hE
        have hX0 : X0 = XX := by rw [HX.out, if_pos rfl]
        have hN0 : N0 = (p4 : Int) / 8 := by rw [HNn.out, if_pos rfl]
        subst hX0 hN0
        have hpb := HPb.out _ _ _ hr4
        have hcr : u4.cell? ⟨r, 0, none⟩ = some (iv (p4 : Int)) := by
          obtain ⟨v, h1, _⟩ := hr4
          exact U.cell_only hon.out (U.cell_keep ((Only.refl Nix u3).alloc _) h1.cell0) (fun e => by have e2 : r = u3.heap.size := e; omega)
        have hw1 : IntKind.i64.wrap ((p4 : Int) / 8) = (p4 : Int) / 8 := wraps_i64 _ (by omega) (by omega)
        have HCr := Lib.hid hcr
        have HW1 := Lib.hid hw1
        clear hr4 hpb hcr hw1 e1
        obtain ⟨C, hC⟩ : ∃ C, hc X0 = C := ⟨_, rfl⟩
        have hsz9 : C.size = 9 := by rw [← hC]; rfl
        have hone : C.all (·.oneCell') = true := by rw [← hC]; exact hc_one _
        have HXc : Hid (hv X0 = .agg C) := Lib.hid (by rw [← hC]; rfl)
        rw [hC] at B64
        have hw1 := HW1.out
        go_wp2
        have n6 : Hid (¬ Just w.heap.size u3.heap.size) := Lib.hid (fun e => by have e2 : u3.heap.size = w.heap.size := e; have := hw3.out; omega)
        have n5 : Hid (¬ Just w.heap.size u1.heap.size) := Lib.hid (fun e => by have e2 : u1.heap.size = w.heap.size := e; omega)
        have nr : Hid (¬ Just w.heap.size r) := Lib.hid (fun e => by have e2 : r = w.heap.size := e; omega)
        have fr_Rd : ∀ j s, j < 8 → (([some 26, some 27, some 28, some 29, some 30, none, some 3, some 4] : List (Option Nat)).all fun d => d != some s) = true → ([some 26, some 27, some 28, some 29, some 30, none, some 3, some 4] : List (Option Nat)).getD j none ≠ some s := by
          intro j s hj ha e
          rw [List.getD_eq_getElem?_getD, List.getElem?_eq_getElem (by exact hj), Option.getD_some] at e
          have := List.all_eq_true.1 ha _ (List.getElem_mem (by exact hj))
          rw [e] at this
          simp at this
        refine region_tel (by kernel_rfl) (fun k0 => ([some 26, some 27, some 28, some 29, some 30, none, some 3, some 4] : List (Option Nat)).getD k0 none) (PL [eqP (.agg C),
              eqP (.pointer (some ⟨u1.heap.size, 0, none⟩)),
              eqP (.pointer (some ⟨r, 0, none⟩)),
              eqP (iv (p4 : Nat)),
              eqP (iv ((p4 : Int) / 8)),
              (fun _ _ => True),
              eqP (iv ((p4 : Int) / 8)),
              eqP (iv 0)]) (fun x y => Only (Just w.heap.size) x y) (fun L x => RS6 u4 w.heap.size C (hc hd0) L x) 31 8 rfl (by kernel_rfl) (by kernel_rfl) rfl (by kernel_rfl) (by kernel_rfl) (stab_all ⟨fun _ _ _ h _ => h, fun _ _ _ h _ => h, fun _ _ _ h _ => h, fun _ _ _ h _ => h, fun _ _ _ h _ => h, fun _ _ _ _ _ => trivial, fun _ _ _ h _ => h, fun _ _ _ h _ => h, trivial⟩) (⟨(Only.refl _ _).drew, BX4.out.only (Only.refl Nix _).drew (fun e => e)⟩) ?stepsRd (fun vs => [(26, vs 0), (27, vs 1), (28, vs 2), (29, vs 3), (30, vs 4), (3, vs 6), (4, vs 7)]) (fun vs => rfl) ?doneRd
        case stepsRd =>
          refine ⟨?_, ?_, ?_, ?_, ?_, ?_, ?_, ?_, trivial⟩
          · intro L vs A' u hW hL0 hnd K' hK
            have hS := hW.wi.s
            have r6 : A'.tmps[6]? = some (.pointer (some ⟨u3.heap.size, 0, none⟩)) := (hW.out 6 (fun j hj => fr_Rd j 6 hj (by kernel_rfl))).trans rfl
            have hb6 := B64.out.only hS.on n6.out
            refine wp_load_row 23 (.tmp 6) rfl u3.heap.size (eval_tmp r6) 23 _ (0, 0) _ hb6 Tryd.underlying23 rfl (by rw [hsz9]; exact Tryd.size_header) ?_
            exact hK _ _ rfl (Only.refl _ _) (RS6.same rfl hS)
          · intro L vs A' u hW hL0 hnd K' hK
            have hS := hW.wi.s
            have r5 : A'.tmps[5]? = some (.pointer (some ⟨u1.heap.size, 0, none⟩)) := (hW.out 5 (fun j hj => fr_Rd j 5 hj (by kernel_rfl))).trans rfl
            go_simp
            exact hK _ _ (by first | rfl | (show _ = _; simp)) (Only.refl _ _) (RS6.same rfl hS)
          · intro L vs A' u hW hL0 hnd K' hK
            have hS := hW.wi.s
            have r27 : A'.tmps[27]? = some (.pointer (some ⟨u1.heap.size, 0, none⟩)) := by
              obtain ⟨x, e, h⟩ := hW.tel 1 27 (by decide) (hnd 1 (by kernel_rfl)) rfl
              rw [e]; exact congrArg some h
            have hbr := BR4.out.only hS.on n5.out
            have hcc : u.cell? ⟨u1.heap.size, 0, none⟩ = some (.pointer (some ⟨r, 0, none⟩)) := hbr.cell 0
            go_simp
            exact hK _ _ rfl (Only.refl _ _) (RS6.same rfl hS)
          · intro L vs A' u hW hL0 hnd K' hK
            have hS := hW.wi.s
            have r28 : A'.tmps[28]? = some (.pointer (some ⟨r, 0, none⟩)) := by
              obtain ⟨x, e, h⟩ := hW.tel 2 28 (by decide) (hnd 2 (by kernel_rfl)) rfl
              rw [e]; exact congrArg some h
            have HCL := Lib.hid (at_any r p4 u (U.cell_only hS.on HCr.out nr.out))
            go_simp
            refine (HCL.out).mono ?_
            rintro _ u' ⟨rfl, rfl⟩
            exact hK _ _ rfl (Only.refl _ _) (RS6.same rfl hS)
          · intro L vs A' u hW hL0 hnd K' hK
            have hS := hW.wi.s
            have r29 : A'.tmps[29]? = some (iv (p4 : Nat)) := by
              obtain ⟨x, e, h⟩ := hW.tel 3 29 (by decide) (hnd 3 (by kernel_rfl)) rfl
              rw [e]; exact congrArg some h
            go_simp
            exact hK _ _ (by first | rfl | (show _ = _; simp)) (Only.refl _ _) (RS6.same rfl hS)
          · intro L vs A' u hW hL0 hnd K' hK
            have hS := hW.wi.s
            have r2 : A'.tmps[2]? = some (.pointer (some ⟨w.heap.size, 0, none⟩)) := (hW.out 2 (fun j hj => fr_Rd j 2 hj (by kernel_rfl))).trans rfl
            have r26 : A'.tmps[26]? = some (.agg C) := by
              obtain ⟨x, e, h⟩ := hW.tel 0 26 (by decide) (hnd 0 (by kernel_rfl)) rfl
              rw [e]; exact congrArg some h
            have hb0 := hS.bx
            rw [hL0] at hb0
            refine wp_store_row 23 (.tmp 2) (.tmp 26) rfl w.heap.size 23 (hc hd0) C (eval_tmp r2) (eval_tmp r26) hb0 (by rw [hsz9]; exact Tryd.size_header) (by rw [hsz9]; rfl) hone ?_
            intro wz hbz hoz
            exact hK undef _ trivial hoz (RS6.row hS hbz hoz)
          · intro L vs A' u hW hL0 hnd K' hK
            have hS := hW.wi.s
            have r30 : A'.tmps[30]? = some (iv ((p4 : Int) / 8)) := by
              obtain ⟨x, e, h⟩ := hW.tel 4 30 (by decide) (hnd 4 (by kernel_rfl)) rfl
              rw [e]; exact congrArg some h
            go_simp
            exact hK _ _ (by first | rfl | (show _ = _; simp)) (Only.refl _ _) (RS6.same rfl hS)
          · intro L vs A' u hW hL0 hnd K' hK
            have hS := hW.wi.s
            go_simp
            exact hK _ _ (by first | rfl | (show _ = _; simp)) (Only.refl _ _) (RS6.same rfl hS)
        case doneRd =>
          intro L vs u5 hS hP hall
          have e6 : vs 6 = iv ((p4 : Int) / 8) := hP 6 (by decide)
          have e7 : vs 7 = iv 0 := hP 7 (by decide)
          have hbx := hS.bx
          rw [hall 5 (by decide), if_pos rfl] at hbx
          have OW : Hid (Only Nix w u5) := Lib.hid (HO4.out.then hS.on (fun k e => .inr (by rw [show k = w.heap.size from e]; omega)))
          subst hC
          have HLd := Lib.hid hbx
          clear hS hP hall fr_Rd hbx hone hsz9
          simp only [putV, List.foldl_cons, List.foldl_nil, List.setIfInBounds_toArray, List.set_cons_zero, List.set_cons_succ]
          rw [e6, e7]
          clear e6 e7
          generalize vs 0 = y0, vs 1 = y1, vs 2 = y2, vs 3 = y3, vs 4 = y4, vs 5 = y5
          go_wp2
          refine bodyPost_ret (v := .tuple #[hv X0, iv ((p4 : Int) / 8), iv 0]) ?_ rfl ?_
          · have hb := HLd.out
            have k0 := hb.cell 0
            have k1 := hb.cell 1
            have k2 := hb.cell 2
            have k3 := hb.cell 3
            have k4 := hb.cell 4
            have k5 := hb.cell 5
            have k6 := hb.cell 6
            have k7 := hb.cell 7
            have k8 := hb.cell 8
            simp only [hc, List.getElem?_toArray, List.getElem?_cons_zero, List.getElem?_cons_succ] at k0 k1 k2 k3 k4 k5 k6 k7 k8
            simp [results, Tryd.f15, go_sem, k0, k1, k2, k3, k4, k5, k6, k7, k8, hv, hc]
          · exact ⟨rfl, OW.out⟩
      · have hX0 : X0 = hd0 := by rw [HX.out, if_neg hE]
        have hN0 : N0 = 0 := by rw [HNn.out, if_neg hE]
        subst hX0 hN0
        go_wp2_with (refine wpList_store_row rfl 23 (.tmp 2) (.tmp 24) rfl rfl w.heap.size 23 (hc hd0) (hc hd0) rfl rfl BX4.out Tryd.size_header rfl (hc_one _) ?st3)
        case st3 =>
          intro u5 hbz hoz
          have HLd := Lib.hid hbz
          have OW : Hid (Only Nix w u5) := Lib.hid (HO4.out.then hoz (fun k e => .inr (by rw [show k = w.heap.size from e]; omega)))
          clear hbz hoz
          go_wp2
          refine bodyPost_ret (v := .tuple #[hv hd0, iv 0, iv E]) ?_ rfl ?_
          · have hb := HLd.out
            have k0 := hb.cell 0
            have k1 := hb.cell 1
            have k2 := hb.cell 2
            have k3 := hb.cell 3
            have k4 := hb.cell 4
            have k5 := hb.cell 5
            have k6 := hb.cell 6
            have k7 := hb.cell 7
            have k8 := hb.cell 8
            simp only [hc, hd0, List.getElem?_toArray, List.getElem?_cons_zero, List.getElem?_cons_succ] at k0 k1 k2 k3 k4 k5 k6 k7 k8
            simp [results, Tryd.f15, go_sem, k0, k1, k2, k3, k4, k5, k6, k7, k8, hv, hc, hd0]
          · exact ⟨rfl, OW.out⟩
  · skip
    have hq : (16 : Int) < n := by omega
    have HS1 := Lib.hid (HTk.out 16 (by omega) W1 HO.out)
    have hKc : 16 ≤ c := by omega
    have HKc := Lib.hid hKc
    have hKci : ((16 : Nat) : Int) ≤ (c : Int) := by omega
    have HN1 := Lib.hid (HSN.out _ W1 (src_of HS1.out HN.out))
    clear hKc
    go_enter Tryd.func15, Tryd.ntmps15
    go_wp2_with fail
    refine (HN1.out).mono ?_
    rintro _ u1 ⟨r, rfl, hr⟩
    have hrm := hr.mem
    have hrg := hr.ge
    have HR := Lib.hid hr
    have BX1 := Lib.hid (BX.out.only hr.only (fun e => e))
    have HO1 := Lib.hid (HO.out.trans hr.only)
    have hu1 : (u1.alloc (.cells (rdc r A 16 c) 79)).heap.size = u1.heap.size + 1 := by simp
    have BR2 := Lib.hid (Box.new u1 79 (rdc r A 16 c))
    have HR2 := Lib.hid (HR.out.alloc' (.cells (rdc r A 16 c) 79))
    have BX2 := Lib.hid (BX1.out.alloc (.cells (rdc r A 16 c) 79))
    have HO2 := Lib.hid (HO1.out.alloc (.cells (rdc r A 16 c) 79))
    have HHd := Lib.hid (HSH.out W1 _ r 16 HL1.out HR2.out HS1.out HKc.out)
    generalize hU2 : u1.alloc (.cells (rdc r A 16 c) 79) = u2 at *
    have hu2 : u1.heap.size < u2.heap.size := by omega
    clear hr HN1 HR BX1 HO1 HSH
    simp only [rdv, rdc] at *
    go_wp2_with (refine wpList_load_row rfl 79 (.tmp 5) rfl u1.heap.size rfl 79 _ (0, 0) _ BR2.out Tryd.underlying79 rfl Tryd.size_reader ?_)
    refine (HHd.out).mono ?_
    rintro _ u3 ⟨x, rfl, ho3, hr3⟩
    have HR3 := Lib.hid hr3
    have hg3 := HR2.out.mem
    have BX3 := Lib.hid (BX2.out.only ho3 (fun e => by have e2 : w.heap.size = r := e; omega))
    have BR3 := Lib.hid (BR2.out.only ho3 (fun e => by have e2 : u1.heap.size = r := e; omega))
    have ho3' : Only Nix w u3 := HO2.out.then ho3 (fun k e => .inr (by rw [show k = r from e]; omega))
    have hu3 : u1.heap.size < u3.heap.size := by have := ho3.size; omega
    have HO3 := Lib.hid ho3'
    have HB6 := Lib.hid (Box.new u3 23 (hc hd0))
    have hxv : hv x = .agg (hc x) := rfl
    rw [hxv]
    clear hr3 ho3 ho3' HHd hxv
    go_wp2_with (refine wpList_store_row rfl 23 (.tmp 6) (.tmp 20) rfl rfl u3.heap.size 23 (hc hd0) (hc x) rfl rfl HB6.out Tryd.size_header rfl (hc_one _) ?st2)
    case st2 =>
      intro u4 hbz hoz
      have B64 := Lib.hid hbz
      have bx4 := (BX3.out.alloc (.cells (hc hd0) 23)).only hoz (fun e => by have e2 : w.heap.size = u3.heap.size := e; have := HO3.out.size; omega)
      have br4 := (BR3.out.alloc (.cells (hc hd0) 23)).only hoz (fun e => by have e2 : u1.heap.size = u3.heap.size := e; omega)
      have ho4 : Only Nix w u4 := (HO3.out.alloc (.cells (hc hd0) 23)).then hoz (fun k e => .inr (by rw [show k = u3.heap.size from e]; exact HO3.out.size))
      have BX4 := Lib.hid bx4
      have BR4 := Lib.hid br4
      have HO4 := Lib.hid ho4
      have hon := Lib.hid hoz
      have hw3 := Lib.hid HO3.out.size
      clear hbz hoz bx4 br4 ho4 HB6 BX3 BR3 BX2 BR2
      by_cases hE : E = 0
      · obtain ⟨e1, hr4⟩ := HR3.out hE
        have e1s := e1.symm
        subst e1s hE
        have hX0 : X0 = XX := by rw [HX.out, if_pos rfl]
        have hN0 : N0 = (p4 : Int) / 8 := by rw [HNn.out, if_pos rfl]
        subst hX0 hN0
        have hpb := HPb.out _ _ _ hr4
        have hcr : u4.cell? ⟨r, 0, none⟩ = some (iv (p4 : Int)) := by
          obtain ⟨v, h1, _⟩ := hr4
          exact U.cell_only hon.out (U.cell_keep ((Only.refl Nix u3).alloc _) h1.cell0) (fun e => by have e2 : r = u3.heap.size := e; omega)
        have hw1 : IntKind.i64.wrap ((p4 : Int) / 8) = (p4 : Int) / 8 := wraps_i64 _ (by omega) (by omega)
        have HCr := Lib.hid hcr
        have HW1 := Lib.hid hw1
        clear hr4 hpb hcr hw1 e1
        obtain ⟨C, hC⟩ : ∃ C, hc X0 = C := ⟨_, rfl⟩
        have hsz9 : C.size = 9 := by rw [← hC]; rfl
        have hone : C.all (·.oneCell') = true := by rw [← hC]; exact hc_one _
        have HXc : Hid (hv X0 = .agg C) := Lib.hid (by rw [← hC]; rfl)
        rw [hC] at B64
        have hw1 := HW1.out
        go_wp2
        have n6 : Hid (¬ Just w.heap.size u3.heap.size) := Lib.hid (fun e => by have e2 : u3.heap.size = w.heap.size := e; have := hw3.out; omega)
        have n5 : Hid (¬ Just w.heap.size u1.heap.size) := Lib.hid (fun e => by have e2 : u1.heap.size = w.heap.size := e; omega)
        have nr : Hid (¬ Just w.heap.size r) := Lib.hid (fun e => by have e2 : r = w.heap.size := e; omega)
        have fr_Rd : ∀ j s, j < 8 → (([some 26, some 27, some 28, some 29, some 30, none, some 3, some 4] : List (Option Nat)).all fun d => d != some s) = true → ([some 26, some 27, some 28, some 29, some 30, none, some 3, some 4] : List (Option Nat)).getD j none ≠ some s := by
          intro j s hj ha e
          rw [List.getD_eq_getElem?_getD, List.getElem?_eq_getElem (by exact hj), Option.getD_some] at e
          have := List.all_eq_true.1 ha _ (List.getElem_mem (by exact hj))
          rw [e] at this
          simp at this
        refine region_tel (by kernel_rfl) (fun k0 => ([some 26, some 27, some 28, some 29, some 30, none, some 3, some 4] : List (Option Nat)).getD k0 none) (PL [eqP (.agg C),
              eqP (.pointer (some ⟨u1.heap.size, 0, none⟩)),
              eqP (.pointer (some ⟨r, 0, none⟩)),
              eqP (iv (p4 : Nat)),
              eqP (iv ((p4 : Int) / 8)),
              (fun _ _ => True),
              eqP (iv ((p4 : Int) / 8)),
              eqP (iv 0)]) (fun x y => Only (Just w.heap.size) x y) (fun L x => RS6 u4 w.heap.size C (hc hd0) L x) 31 8 rfl (by kernel_rfl) (by kernel_rfl) rfl (by kernel_rfl) (by kernel_rfl) (stab_all ⟨fun _ _ _ h _ => h, fun _ _ _ h _ => h, fun _ _ _ h _ => h, fun _ _ _ h _ => h, fun _ _ _ h _ => h, fun _ _ _ _ _ => trivial, fun _ _ _ h _ => h, fun _ _ _ h _ => h, trivial⟩) (⟨(Only.refl _ _).drew, BX4.out.only (Only.refl Nix _).drew (fun e => e)⟩) ?stepsRd (fun vs => [(26, vs 0), (27, vs 1), (28, vs 2), (29, vs 3), (30, vs 4), (3, vs 6), (4, vs 7)]) (fun vs => rfl) ?doneRd
        case stepsRd =>
          refine ⟨?_, ?_, ?_, ?_, ?_, ?_, ?_, ?_, trivial⟩
          · intro L vs A' u hW hL0 hnd K' hK
            have hS := hW.wi.s
            have r6 : A'.tmps[6]? = some (.pointer (some ⟨u3.heap.size, 0, none⟩)) := (hW.out 6 (fun j hj => fr_Rd j 6 hj (by kernel_rfl))).trans rfl
            have hb6 := B64.out.only hS.on n6.out
            refine wp_load_row 23 (.tmp 6) rfl u3.heap.size (eval_tmp r6) 23 _ (0, 0) _ hb6 Tryd.underlying23 rfl (by rw [hsz9]; exact Tryd.size_header) ?_
            exact hK _ _ rfl (Only.refl _ _) (RS6.same rfl hS)
          · intro L vs A' u hW hL0 hnd K' hK
            have hS := hW.wi.s
            have r5 : A'.tmps[5]? = some (.pointer (some ⟨u1.heap.size, 0, none⟩)) := (hW.out 5 (fun j hj => fr_Rd j 5 hj (by kernel_rfl))).trans rfl
            go_simp
            exact hK _ _ (by first | rfl | (show _ = _; simp)) (Only.refl _ _) (RS6.same rfl hS)
          · intro L vs A' u hW hL0 hnd K' hK
            have hS := hW.wi.s
            have r27 : A'.tmps[27]? = some (.pointer (some ⟨u1.heap.size, 0, none⟩)) := by
              obtain ⟨x, e, h⟩ := hW.tel 1 27 (by decide) (hnd 1 (by kernel_rfl)) rfl
              rw [e]; exact congrArg some h
            have hbr := BR4.out.only hS.on n5.out
            have hcc : u.cell? ⟨u1.heap.size, 0, none⟩ = some (.pointer (some ⟨r, 0, none⟩)) := hbr.cell 0
            go_simp
            exact hK _ _ rfl (Only.refl _ _) (RS6.same rfl hS)
          · intro L vs A' u hW hL0 hnd K' hK
            have hS := hW.wi.s
            have r28 : A'.tmps[28]? = some (.pointer (some ⟨r, 0, none⟩)) := by
              obtain ⟨x, e, h⟩ := hW.tel 2 28 (by decide) (hnd 2 (by kernel_rfl)) rfl
              rw [e]; exact congrArg some h
            have HCL := Lib.hid (at_any r p4 u (U.cell_only hS.on HCr.out nr.out))
            go_simp
            refine (HCL.out).mono ?_
            rintro _ u' ⟨rfl, rfl⟩
            exact hK _ _ rfl (Only.refl _ _) (RS6.same rfl hS)
          · intro L vs A' u hW hL0 hnd K' hK
            have hS := hW.wi.s
            have r29 : A'.tmps[29]? = some (iv (p4 : Nat)) := by
              obtain ⟨x, e, h⟩ := hW.tel 3 29 (by decide) (hnd 3 (by kernel_rfl)) rfl
              rw [e]; exact congrArg some h
            go_simp
            exact hK _ _ (by first | rfl | (show _ = _; simp)) (Only.refl _ _) (RS6.same rfl hS)
          · intro L vs A' u hW hL0 hnd K' hK
            have hS := hW.wi.s
            have r2 : A'.tmps[2]? = some (.pointer (some ⟨w.heap.size, 0, none⟩)) := (hW.out 2 (fun j hj => fr_Rd j 2 hj (by kernel_rfl))).trans rfl
            have r26 : A'.tmps[26]? = some (.agg C) := by
              obtain ⟨x, e, h⟩ := hW.tel 0 26 (by decide) (hnd 0 (by kernel_rfl)) rfl
              rw [e]; exact congrArg some h
            have hb0 := hS.bx
            rw [hL0] at hb0
            refine wp_store_row 23 (.tmp 2) (.tmp 26) rfl w.heap.size 23 (hc hd0) C (eval_tmp r2) (eval_tmp r26) hb0 (by rw [hsz9]; exact Tryd.size_header) (by rw [hsz9]; rfl) hone ?_
            intro wz hbz hoz
            exact hK undef _ trivial hoz (RS6.row hS hbz hoz)
          · intro L vs A' u hW hL0 hnd K' hK
            have hS := hW.wi.s
            have r30 : A'.tmps[30]? = some (iv ((p4 : Int) / 8)) := by
              obtain ⟨x, e, h⟩ := hW.tel 4 30 (by decide) (hnd 4 (by kernel_rfl)) rfl
              rw [e]; exact congrArg some h
            go_simp
            exact hK _ _ (by first | rfl | (show _ = _; simp)) (Only.refl _ _) (RS6.same rfl hS)
          · intro L vs A' u hW hL0 hnd K' hK
            have hS := hW.wi.s
            go_simp
            exact hK _ _ (by first | rfl | (show _ = _; simp)) (Only.refl _ _) (RS6.same rfl hS)
        case doneRd =>
          intro L vs u5 hS hP hall
          have e6 : vs 6 = iv ((p4 : Int) / 8) := hP 6 (by decide)
          have e7 : vs 7 = iv 0 := hP 7 (by decide)
          have hbx := hS.bx
          rw [hall 5 (by decide), if_pos rfl] at hbx
          have OW : Hid (Only Nix w u5) := Lib.hid (HO4.out.then hS.on (fun k e => .inr (by rw [show k = w.heap.size from e]; omega)))
          subst hC
          have HLd := Lib.hid hbx
          clear hS hP hall fr_Rd hbx hone hsz9
          simp only [putV, List.foldl_cons, List.foldl_nil, List.setIfInBounds_toArray, List.set_cons_zero, List.set_cons_succ]
          rw [e6, e7]
          clear e6 e7
          generalize vs 0 = y0, vs 1 = y1, vs 2 = y2, vs 3 = y3, vs 4 = y4, vs 5 = y5
          go_wp2
          refine bodyPost_ret (v := .tuple #[hv X0, iv ((p4 : Int) / 8), iv 0]) ?_ rfl ?_
          · have hb := HLd.out
            have k0 := hb.cell 0
            have k1 := hb.cell 1
            have k2 := hb.cell 2
            have k3 := hb.cell 3
            have k4 := hb.cell 4
            have k5 := hb.cell 5
            have k6 := hb.cell 6
            have k7 := hb.cell 7
            have k8 := hb.cell 8
            simp only [hc, List.getElem?_toArray, List.getElem?_cons_zero, List.getElem?_cons_succ] at k0 k1 k2 k3 k4 k5 k6 k7 k8
            simp [results, Tryd.f15, go_sem, k0, k1, k2, k3, k4, k5, k6, k7, k8, hv, hc]
          · exact ⟨rfl, OW.out⟩
      · have hX0 : X0 = hd0 := by rw [HX.out, if_neg hE]
        have hN0 : N0 = 0 := by rw [HNn.out, if_neg hE]
        subst hX0 hN0
        go_wp2_with (refine wpList_store_row rfl 23 (.tmp 2) (.tmp 24) rfl rfl w.heap.size 23 (hc hd0) (hc hd0) rfl rfl BX4.out Tryd.size_header rfl (hc_one _) ?st3)
        case st3 =>
          intro u5 hbz hoz
          have HLd := Lib.hid hbz
          have OW : Hid (Only Nix w u5) := Lib.hid (HO4.out.then hoz (fun k e => .inr (by rw [show k = w.heap.size from e]; omega)))
          clear hbz hoz
          go_wp2
          refine bodyPost_ret (v := .tuple #[hv hd0, iv 0, iv E]) ?_ rfl ?_
          · have hb := HLd.out
            have k0 := hb.cell 0
            have k1 := hb.cell 1
            have k2 := hb.cell 2
            have k3 := hb.cell 3
            have k4 := hb.cell 4
            have k5 := hb.cell 5
            have k6 := hb.cell 6
            have k7 := hb.cell 7
            have k8 := hb.cell 8
            simp only [hc, hd0, List.getElem?_toArray, List.getElem?_cons_zero, List.getElem?_cons_succ] at k0 k1 k2 k3 k4 k5 k6 k7 k8
            simp [results, Tryd.f15, go_sem, k0, k1, k2, k3, k4, k5, k6, k7, k8, hv, hc, hd0]
          · exact ⟨rfl, OW.out⟩
end Go.Proofs.YteahiigfclabfaaDoor.H
