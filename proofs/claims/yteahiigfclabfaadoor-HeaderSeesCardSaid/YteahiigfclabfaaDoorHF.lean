/-
  Package header, header: what is read of bytes, stage by stage.
-/
import Derived.Test.YteahiigfclabfaaDoorHF0
namespace Go.Proofs.YteahiigfclabfaaDoor.H
open Go.RowKit

def rV (bs : List Nat) : Bool := decide (takeR bs 15 1 = 1)
def rP0 (bs : List Nat) : Nat := 32 + 8 * gS bs
def rR1 (bs : List Nat) : Rw := rowOf bT (takeR bs 16 4)
def rR2 (bs : List Nat) : Rw := rowOf rT (takeR bs 20 4)
def rR3 (bs : List Nat) : Rw := rowOf dT (takeR bs 28 3)
def rP1 (bs : List Nat) : Nat := rP0 bs + (rR1 bs).s
def rP2 (bs : List Nat) : Nat := rP1 bs + (rR2 bs).s
def rP3 (bs : List Nat) : Nat := rP2 bs + (rR3 bs).s
/-- the last error: the sum -/
def suE (bs : List Nat) : Int := expE bs (rP3 bs) 8 (U.sm 8 7 (bs.take (rP3 bs / 8)) : Nat) 15
/-- the error of it all, and the header -/
def hdE (bs : List Nat) : Int := fstE [syE bs, coE bs, mdE bs, nuE bs (rV bs), toE bs (rP0 bs) (rR1 bs), toE bs (rP1 bs) (rR2 bs), toE bs (rP2 bs) (rR3 bs), suE bs]
def hdX (bs : List Nat) : Hd := ⟨rV bs, takeR bs 16 4, takeR bs 20 4, takeR bs 24 4, takeR bs 28 3, gN bs, toV bs (rP0 bs) (rR1 bs), toV bs (rP1 bs) (rR2 bs), toV bs (rP2 bs) (rR3 bs)⟩
def HdP (W0 : World) (r : Nat) (bs : List Nat) (u : World) (e : Ending) (u' : World) : Prop :=
  ∃ x : Hd, e = .returned (.tuple #[hv x, iv (hdE bs)]) ∧ Only (Just r) u u' ∧ (hdE bs = 0 → x = hdX bs ∧ Rt W0 r bs (rP3 bs + 8) u')
def HdQ (W0 : World) (r : Nat) (bs : List Nat) (u : World) (F : Int) (X : Hd) (p : Nat) (e : Ending) (u' : World) : Prop :=
  ∃ x : Hd, e = .returned (.tuple #[hv x, iv F]) ∧ Only (Just r) u u' ∧ (F = 0 → x = X ∧ Rt W0 r bs p u')
theorem suE_bd (bs : List Nat) (h : expE bs (rP3 bs) 8 (U.sm 8 7 (bs.take (rP3 bs / 8)) : Nat) 15 = 0) : takeA bs (rP3 bs) 8 = rP3 bs + 8 := takeA_ok ((expE_zero (by decide)).1 h).1
theorem toE_at {bs : List Nat} {a : Nat} {R : Rw} (h : toE bs a R = 0) : takeA bs a R.s = a + R.s := by
  unfold toE at h
  rw [fstE_zero] at h
  rw [takeA_ok h.1, Int.toNat_natCast]
set_option maxRecDepth 100000 in
set_option maxHeartbeats 16000000 in
theorem header_raw {W0 U0 : World} (hL : LaidH W0) {r : Nat} {bs : List Nat} (h : Rt W0 r bs 0 U0) (A : Option Addr) (m c : Nat) (hs : U.Src W0 (.slice A m c) bs) (hmc : m ≤ c) :
    Calls Tryd.prog 44 #[rdv r A m c] U0 (HdQ W0 r bs U0 (hdE bs) (hdX bs) (rP3 bs + 8)) := by
  have hm := h.mem
  have S1 : Hid (∀ x, Rt W0 r bs 0 x → Calls Tryd.prog 59 #[rdv r A m c] x fun e u' => ∃ b : Bool, e = .returned (.tuple #[.bool b, iv (syE bs)]) ∧ Only (Just r) x u' ∧ (syE bs = 0 → b = rV bs ∧ Rt W0 r bs 16 u')) := Lib.hid (fun x hx => sync_any hx A m c)
  have S2 : Hid (∀ x, Rt W0 r bs 16 x → Calls Tryd.prog 60 #[rdv r A m c] x fun e u' => ∃ a b : Int, e = .returned (.tuple #[iv a, iv b, iv (coE bs)]) ∧ Only (Just r) x u' ∧ (coE bs = 0 → a = takeR bs 16 4 ∧ b = takeR bs 20 4 ∧ Rt W0 r bs 24 u')) := Lib.hid (fun x hx => codes_any hL hx A m c)
  have S3 : Hid (∀ x, Rt W0 r bs 24 x → Calls Tryd.prog 61 #[rdv r A m c] x fun e u' => ∃ a b : Int, e = .returned (.tuple #[iv a, iv b, iv (mdE bs)]) ∧ Only (Just r) x u' ∧ (mdE bs = 0 → a = takeR bs 24 4 ∧ b = takeR bs 28 3 ∧ Rt W0 r bs 32 u')) := Lib.hid (fun x hx => md_any hL hx A m c)
  have S4 : Hid (∀ x, Rt W0 r bs 32 x → Calls Tryd.prog 62 #[rdv r A m c, .bool (rV bs)] x fun e u' => e = .returned (.tuple #[iv (gN bs), iv (nuE bs (rV bs))]) ∧ Only (Just r) x u' ∧ (nuE bs (rV bs) = 0 → Rt W0 r bs (rP0 bs) u')) := Lib.hid (fun x hx => nu_any hL hx A m c hs hmc (rV bs))
  have S5 : Hid (∀ x, Rt W0 r bs (rP0 bs) x → Calls Tryd.prog 63 #[rdv r A m c, rv (rR1 bs)] x fun e u' => e = .returned (.tuple #[iv (if toE bs (rP0 bs) (rR1 bs) = 0 then toV bs (rP0 bs) (rR1 bs) else 0), iv (toE bs (rP0 bs) (rR1 bs))]) ∧ Rt W0 r bs (takeA bs (rP0 bs) (rR1 bs).s) u' ∧ Only (Just r) x u') := Lib.hid (fun x hx => told_any hx A m c _ (rowOf_bd bOk _))
  have S6 : Hid (∀ x, Rt W0 r bs (rP1 bs) x → Calls Tryd.prog 63 #[rdv r A m c, rv (rR2 bs)] x fun e u' => e = .returned (.tuple #[iv (if toE bs (rP1 bs) (rR2 bs) = 0 then toV bs (rP1 bs) (rR2 bs) else 0), iv (toE bs (rP1 bs) (rR2 bs))]) ∧ Rt W0 r bs (takeA bs (rP1 bs) (rR2 bs).s) u' ∧ Only (Just r) x u') := Lib.hid (fun x hx => told_any hx A m c _ (rowOf_bd rOk _))
  have S7 : Hid (∀ x, Rt W0 r bs (rP2 bs) x → Calls Tryd.prog 63 #[rdv r A m c, rv (rR3 bs)] x fun e u' => e = .returned (.tuple #[iv (if toE bs (rP2 bs) (rR3 bs) = 0 then toV bs (rP2 bs) (rR3 bs) else 0), iv (toE bs (rP2 bs) (rR3 bs))]) ∧ Rt W0 r bs (takeA bs (rP2 bs) (rR3 bs).s) u' ∧ Only (Just r) x u') := Lib.hid (fun x hx => told_any hx A m c _ (rowOf_bd dOk _))
  have S8 : Hid (∀ x, Rt W0 r bs (rP3 bs) x → Calls Tryd.prog 64 #[rdv r A m c, iv 8, iv (U.sm 8 7 (bs.take (rP3 bs / 8)) : Nat), iv 15] x fun e u' => e = .returned (iv (suE bs)) ∧ Rt W0 r bs (takeA bs (rP3 bs) 8) u' ∧ Only (Just r) x u') := Lib.hid (fun x hx => expect_any hx A m c 8 _ 15)
  have S9 : Hid (∀ x, Rt W0 r bs (rP3 bs) x → Calls Tryd.prog 45 #[.pointer (some ⟨r, 0, none⟩)] x fun e u' => e = .returned (iv (rP3 bs : Nat)) ∧ x = u') := Lib.hid (fun x hx => at_rt hx)
  have HSm : Hid (bs.length ≤ 140737488355328) := Lib.hid hs.small
  have HP8 : Hid (rP3 bs ≤ 8 * bs.length → ((rP3 bs / 8 : Nat) : Int) ≤ (c : Int) ∧ rP3 bs / 8 ≤ m) := Lib.hid (fun e => by have := hs.len; omega)
  have HLe : Hid (∀ x, Rt W0 r bs (rP3 bs) x → rP3 bs ≤ 8 * bs.length) := Lib.hid (fun x hx => hx.le)
  have HR1 : Hid (∀ x, Calls Tryd.prog 30 #[.agg (tc bT), iv (takeR bs 16 4)] x fun y w' => y = .returned (rv (rR1 bs)) ∧ Only Nix x w') := Lib.hid (fun x => row_any bOk _ x)
  have HR2 : Hid (∀ x, Calls Tryd.prog 30 #[.agg (tc rT), iv (takeR bs 20 4)] x fun y w' => y = .returned (rv (rR2 bs)) ∧ Only Nix x w') := Lib.hid (fun x => row_any rOk _ x)
  have HR3 : Hid (∀ x, Calls Tryd.prog 30 #[.agg (tc dT), iv (takeR bs 28 3)] x fun y w' => y = .returned (rv (rR3 bs)) ∧ Only Nix x w') := Lib.hid (fun x => row_any dOk _ x)
  have HE : Hid (hdE bs = fstE [syE bs, coE bs, mdE bs, nuE bs (rV bs), toE bs (rP0 bs) (rR1 bs), toE bs (rP1 bs) (rR2 bs), toE bs (rP2 bs) (rR3 bs), suE bs]) := Lib.hid rfl
  have HX : Hid (hdX bs = ⟨rV bs, takeR bs 16 4, takeR bs 20 4, takeR bs 24 4, takeR bs 28 3, gN bs, toV bs (rP0 bs) (rR1 bs), toV bs (rP1 bs) (rR2 bs), toV bs (rP2 bs) (rR3 bs)⟩) := Lib.hid rfl
  have A5 : Hid (toE bs (rP0 bs) (rR1 bs) = 0 → takeA bs (rP0 bs) (rR1 bs).s = rP1 bs) := Lib.hid toE_at
  have A6 : Hid (toE bs (rP1 bs) (rR2 bs) = 0 → takeA bs (rP1 bs) (rR2 bs).s = rP2 bs) := Lib.hid toE_at
  have A7 : Hid (toE bs (rP2 bs) (rR3 bs) = 0 → takeA bs (rP2 bs) (rR3 bs).s = rP3 bs) := Lib.hid toE_at
  have A8 : Hid (suE bs = 0 → takeA bs (rP3 bs) 8 = rP3 bs + 8) := Lib.hid (suE_bd bs)
  have HSu : Hid (∀ (v : Value) x, LaidH x → U.Lists x v [bs.take (rP3 bs / 8)] → Calls Tryd.prog 32 #[v] x fun e w' => e = .returned (iv (U.sm 8 7 (bs.take (rP3 bs / 8)) : Nat)) ∧ Only Nix x w') := Lib.hid (fun v x hx hl => by
    have := U.Sum8_any hx.sums hl
    rw [show [bs.take (rP3 bs / 8)].flatten = bs.take (rP3 bs / 8) from by simp] at this
    exact this)
  have HTk : Hid (∀ x, Only Nix W0 x → rP3 bs ≤ 8 * bs.length → U.Src x (.slice A (rP3 bs / 8) c) (bs.take (rP3 bs / 8))) := Lib.hid (fun x hx hp => src_takeA (hs.nix hx) (by have := hs.len; omega))
  generalize U.sm 8 7 (bs.take (rP3 bs / 8)) = SM at *
  generalize bs.take (rP3 bs / 8) = BT at *
  generalize hdE bs = F at *
  generalize hdX bs = XX at *
  generalize syE bs = E1 at *
  generalize coE bs = E2 at *
  generalize mdE bs = E3 at *
  generalize nuE bs (rV bs) = E4 at *
  have HY1 : Hid (toE bs (rP0 bs) (rR1 bs) = 0 → (if toE bs (rP0 bs) (rR1 bs) = 0 then toV bs (rP0 bs) (rR1 bs) else 0) = toV bs (rP0 bs) (rR1 bs)) := Lib.hid (fun e => if_pos e)
  have HY2 : Hid (toE bs (rP1 bs) (rR2 bs) = 0 → (if toE bs (rP1 bs) (rR2 bs) = 0 then toV bs (rP1 bs) (rR2 bs) else 0) = toV bs (rP1 bs) (rR2 bs)) := Lib.hid (fun e => if_pos e)
  have HY3 : Hid (toE bs (rP2 bs) (rR3 bs) = 0 → (if toE bs (rP2 bs) (rR3 bs) = 0 then toV bs (rP2 bs) (rR3 bs) else 0) = toV bs (rP2 bs) (rR3 bs)) := Lib.hid (fun e => if_pos e)
  generalize (if toE bs (rP0 bs) (rR1 bs) = 0 then toV bs (rP0 bs) (rR1 bs) else 0) = Z1 at *
  generalize (if toE bs (rP1 bs) (rR2 bs) = 0 then toV bs (rP1 bs) (rR2 bs) else 0) = Z2 at *
  generalize (if toE bs (rP2 bs) (rR3 bs) = 0 then toV bs (rP2 bs) (rR3 bs) else 0) = Z3 at *
  generalize toV bs (rP0 bs) (rR1 bs) = Y1 at *
  generalize toV bs (rP1 bs) (rR2 bs) = Y2 at *
  generalize toV bs (rP2 bs) (rR3 bs) = Y3 at *
  generalize toE bs (rP0 bs) (rR1 bs) = E5 at *
  generalize toE bs (rP1 bs) (rR2 bs) = E6 at *
  generalize toE bs (rP2 bs) (rR3 bs) = E7 at *
  generalize suE bs = E8 at *
  generalize rV bs = V at *
  generalize takeR bs 16 4 = cb at *
  generalize takeR bs 20 4 = cr at *
  generalize takeR bs 24 4 = cm at *
  generalize takeR bs 28 3 = cdp at *
  generalize gN bs = G1 at *
  generalize takeA bs (rP0 bs) (rR1 bs).s = t5 at *
  generalize takeA bs (rP1 bs) (rR2 bs).s = t6 at *
  generalize takeA bs (rP2 bs) (rR3 bs).s = t7 at *
  generalize takeA bs (rP3 bs) 8 = t8 at *
  generalize rP3 bs = p3 at *
  generalize rP2 bs = p2 at *
  generalize rP1 bs = p1 at *
  generalize rP0 bs = p0 at *
  generalize rR1 bs = R1 at *
  generalize rR2 bs = R2 at *
  generalize rR3 bs = R3 at *
  have HL0 := Lib.hid hL
  have HQ : Hid (∀ (x : Hd) e u', e = .returned (.tuple #[hv x, iv F]) ∧ Only (Just r) U0 u' ∧ (F = 0 → x = XX ∧ Rt W0 r bs (p3 + 8) u') → HdQ W0 r bs U0 F XX (p3 + 8) e u') := Lib.hid (fun x e u' hh => ⟨x, hh⟩)
  have hO1 := (Only.refl Nix U0).alloc (.cells (rdc r A m c) 79)
  have hB1 := Box.new U0 79 (rdc r A m c)
  have hs1 : (U0.alloc (.cells (rdc r A m c) 79)).heap.size = U0.heap.size + 1 := by simp
  generalize hW1 : U0.alloc (.cells (rdc r A m c) 79) = W1 at *
  have hO2 := (Only.refl Nix W1).alloc (.cells (hc hd0) 23)
  have hB2 := Box.new W1 23 (hc hd0)
  have hB1' := hB1.alloc (.cells (hc hd0) 23)
  rw [hs1] at hB2
  generalize hW2 : W1.alloc (.cells (hc hd0) 23) = W2 at *
  have BX := Lib.hid hB2
  have BR := Lib.hid hB1'
  have HO := Lib.hid ((hO1.trans hO2).nix (F := Just r))
  have HR := Lib.hid (h.nix (hO1.trans hO2))
  have hrb : r < U0.heap.size + 1 := by omega
  have nX : Hid (¬ Just r (U0.heap.size + 1)) := Lib.hid (fun e => by have e2 : U0.heap.size + 1 = r := e; omega)
  have nR : Hid (¬ Just r U0.heap.size) := Lib.hid (fun e => by have e2 : U0.heap.size = r := e; omega)
  simp only [hc, hd0] at hW2
  clear hO1 hO2 hB1 hB2 hB1' h hs hmc hL
  have hS1 := S1.out W2 HR.out
  have HS1 := Lib.hid hS1
  clear hS1
  go_enter Tryd.func44, Tryd.ntmps44
  simp only [rdv, rdc] at *
  go_wp2_with (refine wpList_load_row rfl 79 (.tmp 1) rfl U0.heap.size rfl 79 _ (0, 0) _ BR.out Tryd.underlying79 rfl Tryd.size_reader ?_)
  refine (HS1.out).mono ?_
  rintro _ u1 ⟨b1, rfl, ho, hr⟩
  have bx := BX.out.only ho nX.out
  have br := BR.out.only ho nR.out
  have on := HO.out.trans ho
  have HRc := Lib.hid hr
  clear ho hr BX BR HO HS1
  clear HR
  by_cases hE1 : E1 = 0
  · obtain ⟨e1, hr⟩ := HRc.out hE1
    have e1s := e1.symm
    subst e1s
    have x0 : u1.cell? ⟨U0.heap.size + 1, 0, none⟩ = some (.bool false) := bx.cell 0
    have y0 := bx.frozen 0
    have hby : Box (u1.setCell ⟨U0.heap.size + 1, 0, none⟩ (.bool V)) (U0.heap.size + 1) 23 (hc ⟨V, 0, 0, 0, 0, 0, 0, 0, 0⟩) := (bx.put 0 (.bool V))
    have hry := (br.off (p := ⟨U0.heap.size + 1, 0, none⟩) (by show U0.heap.size ≠ U0.heap.size + 1; omega) (.bool V))
    have hoy := (on.setCell (p := ⟨U0.heap.size + 1, 0, none⟩) (.inr (by show U0.heap.size ≤ U0.heap.size + 1; omega)) (.bool V))
    have BY := Lib.hid hby
    have RY := Lib.hid hry
    have OY := Lib.hid hoy
    clear hby hry hoy
    have hr2 := (hr.keep ((Only.refl (Just (U0.heap.size + 1)) _).setCell (p := ⟨U0.heap.size + 1, 0, none⟩) (.inl rfl) (.bool V)) (fun k e => by rw [show k = U0.heap.size + 1 from e]; omega))
    have HRn := Lib.hid hr2
    have HS2 := Lib.hid (S2.out _ HRn.out)
    clear hr2 hr HRc bx br on
    subst hE1
    have BX := BY
    have BR := RY
    have HO := OY
    clear BY RY OY
    go_wp2_with (refine wpList_load_row rfl 79 (.tmp 1) rfl U0.heap.size rfl 79 _ (0, 0) _ BR.out Tryd.underlying79 rfl Tryd.size_reader ?_)
    refine (HS2.out).mono ?_
    rintro _ u2 ⟨a2, b2, rfl, ho, hr⟩
    have bx := BX.out.only ho nX.out
    have br := BR.out.only ho nR.out
    have on := HO.out.trans ho
    have HRc := Lib.hid hr
    clear ho hr BX BR HO HS2
    skip
    by_cases hE2 : E2 = 0
    · obtain ⟨e1, e2, hr⟩ := HRc.out hE2
      have e1s := e1.symm
      have e2s := e2.symm
      subst e1s e2s
      have x1 : u2.cell? ⟨U0.heap.size + 1, 1, none⟩ = some (iv 0) := bx.cell 1
      have y1 := bx.frozen 1
      have x2 : u2.cell? ⟨U0.heap.size + 1, 2, none⟩ = some (iv 0) := bx.cell 2
      have y2 := bx.frozen 2
      have hby : Box ((u2.setCell ⟨U0.heap.size + 1, 1, none⟩ (iv cb)).setCell ⟨U0.heap.size + 1, 2, none⟩ (iv cr)) (U0.heap.size + 1) 23 (hc ⟨V, cb, cr, 0, 0, 0, 0, 0, 0⟩) := ((bx.put 1 (iv cb)).put 2 (iv cr))
      have hry := ((br.off (p := ⟨U0.heap.size + 1, 1, none⟩) (by show U0.heap.size ≠ U0.heap.size + 1; omega) (iv cb)).off (p := ⟨U0.heap.size + 1, 2, none⟩) (by show U0.heap.size ≠ U0.heap.size + 1; omega) (iv cr))
      have hoy := ((on.setCell (p := ⟨U0.heap.size + 1, 1, none⟩) (.inr (by show U0.heap.size ≤ U0.heap.size + 1; omega)) (iv cb)).setCell (p := ⟨U0.heap.size + 1, 2, none⟩) (.inr (by show U0.heap.size ≤ U0.heap.size + 1; omega)) (iv cr))
      have BY := Lib.hid hby
      have RY := Lib.hid hry
      have OY := Lib.hid hoy
      clear hby hry hoy
      have hr2 := ((hr.keep ((Only.refl (Just (U0.heap.size + 1)) _).setCell (p := ⟨U0.heap.size + 1, 1, none⟩) (.inl rfl) (iv cb)) (fun k e => by rw [show k = U0.heap.size + 1 from e]; omega)).keep ((Only.refl (Just (U0.heap.size + 1)) _).setCell (p := ⟨U0.heap.size + 1, 2, none⟩) (.inl rfl) (iv cr)) (fun k e => by rw [show k = U0.heap.size + 1 from e]; omega))
      have HRn := Lib.hid hr2
      have HS3 := Lib.hid (S3.out _ HRn.out)
      clear hr2 hr HRc bx br on
      subst hE2
      have BX := BY
      have BR := RY
      have HO := OY
      clear BY RY OY
      go_wp2_with (refine wpList_load_row rfl 79 (.tmp 1) rfl U0.heap.size rfl 79 _ (0, 0) _ BR.out Tryd.underlying79 rfl Tryd.size_reader ?_)
      refine (HS3.out).mono ?_
      rintro _ u3 ⟨a3, b3, rfl, ho, hr⟩
      have bx := BX.out.only ho nX.out
      have br := BR.out.only ho nR.out
      have on := HO.out.trans ho
      have HRc := Lib.hid hr
      clear ho hr BX BR HO HS3
      skip
      by_cases hE3 : E3 = 0
      · obtain ⟨e1, e2, hr⟩ := HRc.out hE3
        have e1s := e1.symm
        have e2s := e2.symm
        subst e1s e2s
        have x3 : u3.cell? ⟨U0.heap.size + 1, 3, none⟩ = some (iv 0) := bx.cell 3
        have y3 := bx.frozen 3
        have x4 : u3.cell? ⟨U0.heap.size + 1, 4, none⟩ = some (iv 0) := bx.cell 4
        have y4 := bx.frozen 4
        have hby : Box ((u3.setCell ⟨U0.heap.size + 1, 3, none⟩ (iv cm)).setCell ⟨U0.heap.size + 1, 4, none⟩ (iv cdp)) (U0.heap.size + 1) 23 (hc ⟨V, cb, cr, cm, cdp, 0, 0, 0, 0⟩) := ((bx.put 3 (iv cm)).put 4 (iv cdp))
        have hry := ((br.off (p := ⟨U0.heap.size + 1, 3, none⟩) (by show U0.heap.size ≠ U0.heap.size + 1; omega) (iv cm)).off (p := ⟨U0.heap.size + 1, 4, none⟩) (by show U0.heap.size ≠ U0.heap.size + 1; omega) (iv cdp))
        have hoy := ((on.setCell (p := ⟨U0.heap.size + 1, 3, none⟩) (.inr (by show U0.heap.size ≤ U0.heap.size + 1; omega)) (iv cm)).setCell (p := ⟨U0.heap.size + 1, 4, none⟩) (.inr (by show U0.heap.size ≤ U0.heap.size + 1; omega)) (iv cdp))
        have BY := Lib.hid hby
        have RY := Lib.hid hry
        have OY := Lib.hid hoy
        clear hby hry hoy
        have hr2 := ((hr.keep ((Only.refl (Just (U0.heap.size + 1)) _).setCell (p := ⟨U0.heap.size + 1, 3, none⟩) (.inl rfl) (iv cm)) (fun k e => by rw [show k = U0.heap.size + 1 from e]; omega)).keep ((Only.refl (Just (U0.heap.size + 1)) _).setCell (p := ⟨U0.heap.size + 1, 4, none⟩) (.inl rfl) (iv cdp)) (fun k e => by rw [show k = U0.heap.size + 1 from e]; omega))
        have HRn := Lib.hid hr2
        have HS4 := Lib.hid (S4.out _ HRn.out)
        clear hr2 hr HRc bx br on
        subst hE3
        have BX := BY
        have BR := RY
        have HO := OY
        clear BY RY OY
        have z0 : ((u3.setCell ⟨U0.heap.size + 1, 3, none⟩ (iv cm)).setCell ⟨U0.heap.size + 1, 4, none⟩ (iv cdp)).cell? ⟨U0.heap.size + 1, 0, none⟩ = some (.bool V) := BX.out.cell 0
        go_wp2_with (refine wpList_load_row rfl 79 (.tmp 1) rfl U0.heap.size rfl 79 _ (0, 0) _ BR.out Tryd.underlying79 rfl Tryd.size_reader ?_)
        refine (HS4.out).mono ?_
        rintro _ u4 ⟨rfl, ho, hr⟩
        have bx := BX.out.only ho nX.out
        have br := BR.out.only ho nR.out
        have on := HO.out.trans ho
        have HRc := Lib.hid hr
        clear ho hr BX BR HO HS4 z0
        skip
        by_cases hE4 : E4 = 0
        · obtain hr := HRc.out hE4
          skip
          have x5 : u4.cell? ⟨U0.heap.size + 1, 5, none⟩ = some (iv 0) := bx.cell 5
          have y5 := bx.frozen 5
          have hby : Box (u4.setCell ⟨U0.heap.size + 1, 5, none⟩ (iv ((G1 : Int)))) (U0.heap.size + 1) 23 (hc ⟨V, cb, cr, cm, cdp, (G1 : Int), 0, 0, 0⟩) := (bx.put 5 (iv ((G1 : Int))))
          have hry := (br.off (p := ⟨U0.heap.size + 1, 5, none⟩) (by show U0.heap.size ≠ U0.heap.size + 1; omega) (iv ((G1 : Int))))
          have hoy := (on.setCell (p := ⟨U0.heap.size + 1, 5, none⟩) (.inr (by show U0.heap.size ≤ U0.heap.size + 1; omega)) (iv ((G1 : Int))))
          have BY := Lib.hid hby
          have RY := Lib.hid hry
          have OY := Lib.hid hoy
          clear hby hry hoy
          have hr2 := (hr.keep ((Only.refl (Just (U0.heap.size + 1)) _).setCell (p := ⟨U0.heap.size + 1, 5, none⟩) (.inl rfl) (iv ((G1 : Int)))) (fun k e => by rw [show k = U0.heap.size + 1 from e]; omega))
          have HRn := Lib.hid hr2
          clear hr2 hr HRc bx br on
          subst hE4
          have BX := BY
          have BR := RY
          have HO := OY
          clear BY RY OY
          go_wp2
          generalize (u4.setCell ⟨U0.heap.size + 1, 5, none⟩ (iv ((G1 : Int)))) = v4 at *
          have fr_T5 : ∀ j s, j < 12 → (([some 51, some 52, some 53, some 54, some 55, some 56, some 50, some 57, some 58, some 59, none, some 3] : List (Option Nat)).all fun d => d != some s) = true → ([some 51, some 52, some 53, some 54, some 55, some 56, some 50, some 57, some 58, some 59, none, some 3] : List (Option Nat)).getD j none ≠ some s := by
            intro j s hj ha e
            rw [List.getD_eq_getElem?_getD, List.getElem?_eq_getElem (by exact hj), Option.getD_some] at e
            have := List.all_eq_true.1 ha _ (List.getElem_mem (by exact hj))
            rw [e] at this
            simp at this
          refine region_tel (by kernel_rfl) (fun k0 => ([some 51, some 52, some 53, some 54, some 55, some 56, some 50, some 57, some 58, some 59, none, some 3] : List (Option Nat)).getD k0 none) (PL [eqP (rdv r A m c),
                eqP (.agg (tc bT)),
                eqP (.pointer (some ⟨U0.heap.size + 1, 1, none⟩)),
                eqP (iv cb),
                eqP (rv R1),
                eqP (.tuple #[iv Z1, iv E5]),
                eqP (.tuple #[iv Z1, iv E5]),
                eqP (iv Z1),
                eqP (iv E5),
                eqP (.pointer (some ⟨U0.heap.size + 1, 6, none⟩)),
                (fun _ _ => True),
                eqP (iv E5)]) (fun x y => Only (Two r (U0.heap.size + 1)) x y) (fun L x => HS2 W0 r bs [(5, t5)] p0 (U0.heap.size + 1) (hc ⟨V, cb, cr, cm, cdp, (G1 : Int), 0, 0, 0⟩) (hc ⟨V, cb, cr, cm, cdp, (G1 : Int), Z1, 0, 0⟩) 10 U0.heap.size (rdc r A m c) v4 L x) 104 12 rfl (by kernel_rfl) (by kernel_rfl) rfl (by kernel_rfl) (by kernel_rfl) (stab_all ⟨fun _ _ _ h _ => h, fun _ _ _ h _ => h, fun _ _ _ h _ => h, fun _ _ _ h _ => h, fun _ _ _ h _ => h, fun _ _ _ h _ => h, fun _ _ _ h _ => h, fun _ _ _ h _ => h, fun _ _ _ h _ => h, fun _ _ _ h _ => h, fun _ _ _ _ _ => trivial, fun _ _ _ h _ => h, trivial⟩) (⟨HRn.out.nix (Only.refl _ _).drew, BX.out.only (Only.refl Nix _).drew (fun e => e), BR.out.only (Only.refl Nix _).drew (fun e => e), (Only.refl _ _).drew⟩) ?stepsT5 (fun vs => [(51, vs 0), (52, vs 1), (53, vs 2), (54, vs 3), (55, vs 4), (56, vs 5), (50, vs 6), (57, vs 7), (58, vs 8), (59, vs 9), (3, vs 11)]) (fun vs => rfl) ?doneT5
          case stepsT5 =>
            refine ⟨?_, ?_, ?_, ?_, ?_, ?_, ?_, ?_, ?_, ?_, ?_, ?_, trivial⟩
            · intro L vs A' u hW hL0 hnd K' hK
              have hS := hW.wi.s
              have r1 : A'.tmps[1]? = some (.pointer (some ⟨U0.heap.size, 0, none⟩)) := (hW.out 1 (fun j hj => fr_T5 j 1 hj (by kernel_rfl))).trans rfl
              have hbx := hS.br
              refine wp_load_row 79 (.tmp 1) rfl U0.heap.size (eval_tmp r1) 79 _ (0, 0) _ hbx Tryd.underlying79 rfl Tryd.size_reader ?_
              exact hK _ _ rfl (Only.refl _ _) (HS2.same rfl hS)
            · intro L vs A' u hW hL0 hnd K' hK
              have hS := hW.wi.s
              refine wp_load_mid 61 _ rfl 0 0 rfl (tl bT) _ (range_nix HL0.out.blocks hS.rt.only) Tryd.under_table rfl Tryd.size_tl_bT ?_
              exact hK _ _ (rfl) (Only.refl _ _) (HS2.same rfl hS)
            · intro L vs A' u hW hL0 hnd K' hK
              have hS := hW.wi.s
              have r2 : A'.tmps[2]? = some (.pointer (some ⟨U0.heap.size + 1, 0, none⟩)) := (hW.out 2 (fun j hj => fr_T5 j 2 hj (by kernel_rfl))).trans rfl
              go_simp
              exact hK _ _ (by first | rfl | (show _ = _; simp)) (Only.refl _ _) (HS2.same rfl hS)
            · intro L vs A' u hW hL0 hnd K' hK
              have hS := hW.wi.s
              have r53 : A'.tmps[53]? = some (.pointer (some ⟨U0.heap.size + 1, 1, none⟩)) := by
                obtain ⟨x, e, h⟩ := hW.tel 2 53 (by decide) (hnd 2 (by kernel_rfl)) rfl
                rw [e]; exact congrArg some h
              have n4 : L 4 = false := notYet hW.closed (j := 4) (by rfl) (k := 3) (by kernel_rfl) hL0
              have n5 : L 5 = false := notYet hW.closed (j := 5) (by rfl) (k := 4) (by kernel_rfl) n4
              have n6 : L 6 = false := notYet hW.closed (j := 6) (by rfl) (k := 5) (by kernel_rfl) n5
              have n7 : L 7 = false := notYet hW.closed (j := 7) (by rfl) (k := 6) (by kernel_rfl) n6
              have n10 : L 10 = false := notYet hW.closed (j := 10) (by rfl) (k := 7) (by kernel_rfl) n7
              have hb0 := hS.bx
              rw [n10] at hb0
              have hc : u.cell? ⟨U0.heap.size + 1, 1, none⟩ = some (iv cb) := hb0.cell 1
              go_simp
              exact hK _ _ rfl (Only.refl _ _) (HS2.same rfl hS)
            · intro L vs A' u hW hL0 hnd K' hK
              have hS := hW.wi.s
              have r52 : A'.tmps[52]? = some (.agg (tc bT)) := by
                obtain ⟨x, e, h⟩ := hW.tel 1 52 (by decide) (hnd 1 (by kernel_rfl)) rfl
                rw [e]; exact congrArg some h
              have r54 : A'.tmps[54]? = some (iv cb) := by
                obtain ⟨x, e, h⟩ := hW.tel 3 54 (by decide) (hnd 3 (by kernel_rfl)) rfl
                rw [e]; exact congrArg some h
              have HCL := Lib.hid (HR1.out u)
              go_simp
              refine (HCL.out).mono ?_
              rintro _ u' ⟨rfl, ho'⟩
              exact hK _ _ (rfl) ho'.nix (HS2.same rfl (HS2.nix hS ho'))
            · intro L vs A' u hW hL0 hnd K' hK
              have hS := hW.wi.s
              have r51 : A'.tmps[51]? = some (rdv r A m c) := by
                obtain ⟨x, e, h⟩ := hW.tel 0 51 (by decide) (hnd 0 (by kernel_rfl)) rfl
                rw [e]; exact congrArg some h
              have r55 : A'.tmps[55]? = some (rv R1) := by
                obtain ⟨x, e, h⟩ := hW.tel 4 55 (by decide) (hnd 4 (by kernel_rfl)) rfl
                rw [e]; exact congrArg some h
              have HCL := Lib.hid (S5.out u (HS2.out hS (by simp [posL, hL0])))
              go_simp
              refine (HCL.out).mono ?_
              rintro _ u' ⟨rfl, hr, ho'⟩
              exact hK _ _ rfl (ho'.mono fun k e => .inl e) (HS2.took hS hr ho' (by simp [posL, andOne]) (by decide) (by omega) (by omega))
            · intro L vs A' u hW hL0 hnd K' hK
              have hS := hW.wi.s
              have r56 : A'.tmps[56]? = some (.tuple #[iv Z1, iv E5]) := by
                obtain ⟨x, e, h⟩ := hW.tel 5 56 (by decide) (hnd 5 (by kernel_rfl)) rfl
                rw [e]; exact congrArg some h
              go_simp
              exact hK _ _ (by first | rfl | (show _ = _; simp)) (Only.refl _ _) (HS2.same rfl hS)
            · intro L vs A' u hW hL0 hnd K' hK
              have hS := hW.wi.s
              have r50 : A'.tmps[50]? = some (.tuple #[iv Z1, iv E5]) := by
                obtain ⟨x, e, h⟩ := hW.tel 6 50 (by decide) (hnd 6 (by kernel_rfl)) rfl
                rw [e]; exact congrArg some h
              go_simp
              exact hK _ _ (by first | rfl | (show _ = _; simp)) (Only.refl _ _) (HS2.same rfl hS)
            · intro L vs A' u hW hL0 hnd K' hK
              have hS := hW.wi.s
              have r50 : A'.tmps[50]? = some (.tuple #[iv Z1, iv E5]) := by
                obtain ⟨x, e, h⟩ := hW.tel 6 50 (by decide) (hnd 6 (by kernel_rfl)) rfl
                rw [e]; exact congrArg some h
              go_simp
              exact hK _ _ (by first | rfl | (show _ = _; simp)) (Only.refl _ _) (HS2.same rfl hS)
            · intro L vs A' u hW hL0 hnd K' hK
              have hS := hW.wi.s
              have r2 : A'.tmps[2]? = some (.pointer (some ⟨U0.heap.size + 1, 0, none⟩)) := (hW.out 2 (fun j hj => fr_T5 j 2 hj (by kernel_rfl))).trans rfl
              go_simp
              exact hK _ _ (by first | rfl | (show _ = _; simp)) (Only.refl _ _) (HS2.same rfl hS)
            · intro L vs A' u hW hL0 hnd K' hK
              have hS := hW.wi.s
              have r59 : A'.tmps[59]? = some (.pointer (some ⟨U0.heap.size + 1, 6, none⟩)) := by
                obtain ⟨x, e, h⟩ := hW.tel 9 59 (by decide) (hnd 9 (by kernel_rfl)) rfl
                rw [e]; exact congrArg some h
              have r57 : A'.tmps[57]? = some (iv Z1) := by
                obtain ⟨x, e, h⟩ := hW.tel 7 57 (by decide) (hnd 7 (by kernel_rfl)) rfl
                rw [e]; exact congrArg some h
              have hb0 := hS.bx
              rw [hL0] at hb0
              have hc : u.cell? ⟨U0.heap.size + 1, 6, none⟩ = some (iv 0) := hb0.cell 6
              have hf := hb0.frozen 6
              go_simp
              exact hK undef _ trivial ((Only.refl (Two r (U0.heap.size + 1)) u).setCell (p := ⟨U0.heap.size + 1, 6, none⟩) (.inl (.inr rfl)) _) (HS2.put hS hL0 6 (iv Z1) rfl (by omega) (by omega) rfl)
            · intro L vs A' u hW hL0 hnd K' hK
              have hS := hW.wi.s
              have r58 : A'.tmps[58]? = some (iv E5) := by
                obtain ⟨x, e, h⟩ := hW.tel 8 58 (by decide) (hnd 8 (by kernel_rfl)) rfl
                rw [e]; exact congrArg some h
              go_simp
              exact hK _ _ (by first | rfl | (show _ = _; simp)) (Only.refl _ _) (HS2.same rfl hS)
          case doneT5 =>
            intro L vs u5 hS hP hall
            have e11 : vs 11 = iv E5 := hP 11 (by decide)
            have hr := HS2.out hS (q := t5) (by simp [posL, hall 5 (by decide)])
            have hbx := hS.bx
            rw [hall 10 (by decide), if_pos rfl] at hbx
            have BY := Lib.hid hbx
            have RY := Lib.hid hS.br
            have OY := Lib.hid (HO.out.then hS.on (fun j e => by
              rcases e with e | e
              · exact .inl e
              · exact .inr (by omega)))
            have HRn2 := Lib.hid hr
            clear hS hP hall fr_T5 hbx hr HRn BX BR HO
            simp only [putV, List.foldl_cons, List.foldl_nil, List.setIfInBounds_toArray, List.set_cons_zero, List.set_cons_succ]
            rw [e11]
            clear e11
            generalize vs 0 = y0, vs 1 = y1, vs 2 = y2, vs 3 = y3, vs 4 = y4, vs 5 = y5, vs 6 = y6, vs 7 = y7, vs 8 = y8, vs 9 = y9
            by_cases hE5 : E5 = 0
            · have hz := HY1.out hE5
              have ht := (A5.out hE5).symm
              subst hz ht hE5
              have BX := BY
              have BR := RY
              have HO := OY
              have HRn := HRn2
              clear BY RY OY HRn2
              go_wp2
              have fr_T6 : ∀ j s, j < 12 → (([some 65, some 66, some 67, some 68, some 69, some 70, some 64, some 71, some 72, some 73, none, some 3] : List (Option Nat)).all fun d => d != some s) = true → ([some 65, some 66, some 67, some 68, some 69, some 70, some 64, some 71, some 72, some 73, none, some 3] : List (Option Nat)).getD j none ≠ some s := by
                intro j s hj ha e
                rw [List.getD_eq_getElem?_getD, List.getElem?_eq_getElem (by exact hj), Option.getD_some] at e
                have := List.all_eq_true.1 ha _ (List.getElem_mem (by exact hj))
                rw [e] at this
                simp at this
              refine region_tel (by kernel_rfl) (fun k0 => ([some 65, some 66, some 67, some 68, some 69, some 70, some 64, some 71, some 72, some 73, none, some 3] : List (Option Nat)).getD k0 none) (PL [eqP (rdv r A m c),
                    eqP (.agg (tc rT)),
                    eqP (.pointer (some ⟨U0.heap.size + 1, 2, none⟩)),
                    eqP (iv cr),
                    eqP (rv R2),
                    eqP (.tuple #[iv Z2, iv E6]),
                    eqP (.tuple #[iv Z2, iv E6]),
                    eqP (iv Z2),
                    eqP (iv E6),
                    eqP (.pointer (some ⟨U0.heap.size + 1, 7, none⟩)),
                    (fun _ _ => True),
                    eqP (iv E6)]) (fun x y => Only (Two r (U0.heap.size + 1)) x y) (fun L x => HS2 W0 r bs [(5, t6)] p1 (U0.heap.size + 1) (hc ⟨V, cb, cr, cm, cdp, (G1 : Int), Z1, 0, 0⟩) (hc ⟨V, cb, cr, cm, cdp, (G1 : Int), Z1, Z2, 0⟩) 10 U0.heap.size (rdc r A m c) u5 L x) 104 12 rfl (by kernel_rfl) (by kernel_rfl) rfl (by kernel_rfl) (by kernel_rfl) (stab_all ⟨fun _ _ _ h _ => h, fun _ _ _ h _ => h, fun _ _ _ h _ => h, fun _ _ _ h _ => h, fun _ _ _ h _ => h, fun _ _ _ h _ => h, fun _ _ _ h _ => h, fun _ _ _ h _ => h, fun _ _ _ h _ => h, fun _ _ _ h _ => h, fun _ _ _ _ _ => trivial, fun _ _ _ h _ => h, trivial⟩) (⟨HRn.out.nix (Only.refl _ _).drew, BX.out.only (Only.refl Nix _).drew (fun e => e), BR.out.only (Only.refl Nix _).drew (fun e => e), (Only.refl _ _).drew⟩) ?stepsT6 (fun vs => [(65, vs 0), (66, vs 1), (67, vs 2), (68, vs 3), (69, vs 4), (70, vs 5), (64, vs 6), (71, vs 7), (72, vs 8), (73, vs 9), (3, vs 11)]) (fun vs => rfl) ?doneT6
              case stepsT6 =>
                refine ⟨?_, ?_, ?_, ?_, ?_, ?_, ?_, ?_, ?_, ?_, ?_, ?_, trivial⟩
                · intro L vs A' u hW hL0 hnd K' hK
                  have hS := hW.wi.s
                  have r1 : A'.tmps[1]? = some (.pointer (some ⟨U0.heap.size, 0, none⟩)) := (hW.out 1 (fun j hj => fr_T6 j 1 hj (by kernel_rfl))).trans rfl
                  have hbx := hS.br
                  refine wp_load_row 79 (.tmp 1) rfl U0.heap.size (eval_tmp r1) 79 _ (0, 0) _ hbx Tryd.underlying79 rfl Tryd.size_reader ?_
                  exact hK _ _ rfl (Only.refl _ _) (HS2.same rfl hS)
                · intro L vs A' u hW hL0 hnd K' hK
                  have hS := hW.wi.s
                  refine wp_load_mid 61 _ rfl 1 0 rfl (tl rT) _ (range_nix HL0.out.rates hS.rt.only) Tryd.under_table rfl Tryd.size_tl_rT ?_
                  exact hK _ _ (rfl) (Only.refl _ _) (HS2.same rfl hS)
                · intro L vs A' u hW hL0 hnd K' hK
                  have hS := hW.wi.s
                  have r2 : A'.tmps[2]? = some (.pointer (some ⟨U0.heap.size + 1, 0, none⟩)) := (hW.out 2 (fun j hj => fr_T6 j 2 hj (by kernel_rfl))).trans rfl
                  go_simp
                  exact hK _ _ (by first | rfl | (show _ = _; simp)) (Only.refl _ _) (HS2.same rfl hS)
                · intro L vs A' u hW hL0 hnd K' hK
                  have hS := hW.wi.s
                  have r67 : A'.tmps[67]? = some (.pointer (some ⟨U0.heap.size + 1, 2, none⟩)) := by
                    obtain ⟨x, e, h⟩ := hW.tel 2 67 (by decide) (hnd 2 (by kernel_rfl)) rfl
                    rw [e]; exact congrArg some h
                  have n4 : L 4 = false := notYet hW.closed (j := 4) (by rfl) (k := 3) (by kernel_rfl) hL0
                  have n5 : L 5 = false := notYet hW.closed (j := 5) (by rfl) (k := 4) (by kernel_rfl) n4
                  have n6 : L 6 = false := notYet hW.closed (j := 6) (by rfl) (k := 5) (by kernel_rfl) n5
                  have n7 : L 7 = false := notYet hW.closed (j := 7) (by rfl) (k := 6) (by kernel_rfl) n6
                  have n10 : L 10 = false := notYet hW.closed (j := 10) (by rfl) (k := 7) (by kernel_rfl) n7
                  have hb0 := hS.bx
                  rw [n10] at hb0
                  have hc : u.cell? ⟨U0.heap.size + 1, 2, none⟩ = some (iv cr) := hb0.cell 2
                  go_simp
                  exact hK _ _ rfl (Only.refl _ _) (HS2.same rfl hS)
                · intro L vs A' u hW hL0 hnd K' hK
                  have hS := hW.wi.s
                  have r66 : A'.tmps[66]? = some (.agg (tc rT)) := by
                    obtain ⟨x, e, h⟩ := hW.tel 1 66 (by decide) (hnd 1 (by kernel_rfl)) rfl
                    rw [e]; exact congrArg some h
                  have r68 : A'.tmps[68]? = some (iv cr) := by
                    obtain ⟨x, e, h⟩ := hW.tel 3 68 (by decide) (hnd 3 (by kernel_rfl)) rfl
                    rw [e]; exact congrArg some h
                  have HCL := Lib.hid (HR2.out u)
                  go_simp
                  refine (HCL.out).mono ?_
                  rintro _ u' ⟨rfl, ho'⟩
                  exact hK _ _ (rfl) ho'.nix (HS2.same rfl (HS2.nix hS ho'))
                · intro L vs A' u hW hL0 hnd K' hK
                  have hS := hW.wi.s
                  have r65 : A'.tmps[65]? = some (rdv r A m c) := by
                    obtain ⟨x, e, h⟩ := hW.tel 0 65 (by decide) (hnd 0 (by kernel_rfl)) rfl
                    rw [e]; exact congrArg some h
                  have r69 : A'.tmps[69]? = some (rv R2) := by
                    obtain ⟨x, e, h⟩ := hW.tel 4 69 (by decide) (hnd 4 (by kernel_rfl)) rfl
                    rw [e]; exact congrArg some h
                  have HCL := Lib.hid (S6.out u (HS2.out hS (by simp [posL, hL0])))
                  go_simp
                  refine (HCL.out).mono ?_
                  rintro _ u' ⟨rfl, hr, ho'⟩
                  exact hK _ _ rfl (ho'.mono fun k e => .inl e) (HS2.took hS hr ho' (by simp [posL, andOne]) (by decide) (by omega) (by omega))
                · intro L vs A' u hW hL0 hnd K' hK
                  have hS := hW.wi.s
                  have r70 : A'.tmps[70]? = some (.tuple #[iv Z2, iv E6]) := by
                    obtain ⟨x, e, h⟩ := hW.tel 5 70 (by decide) (hnd 5 (by kernel_rfl)) rfl
                    rw [e]; exact congrArg some h
                  go_simp
                  exact hK _ _ (by first | rfl | (show _ = _; simp)) (Only.refl _ _) (HS2.same rfl hS)
                · intro L vs A' u hW hL0 hnd K' hK
                  have hS := hW.wi.s
                  have r64 : A'.tmps[64]? = some (.tuple #[iv Z2, iv E6]) := by
                    obtain ⟨x, e, h⟩ := hW.tel 6 64 (by decide) (hnd 6 (by kernel_rfl)) rfl
                    rw [e]; exact congrArg some h
                  go_simp
                  exact hK _ _ (by first | rfl | (show _ = _; simp)) (Only.refl _ _) (HS2.same rfl hS)
                · intro L vs A' u hW hL0 hnd K' hK
                  have hS := hW.wi.s
                  have r64 : A'.tmps[64]? = some (.tuple #[iv Z2, iv E6]) := by
                    obtain ⟨x, e, h⟩ := hW.tel 6 64 (by decide) (hnd 6 (by kernel_rfl)) rfl
                    rw [e]; exact congrArg some h
                  go_simp
                  exact hK _ _ (by first | rfl | (show _ = _; simp)) (Only.refl _ _) (HS2.same rfl hS)
                · intro L vs A' u hW hL0 hnd K' hK
                  have hS := hW.wi.s
                  have r2 : A'.tmps[2]? = some (.pointer (some ⟨U0.heap.size + 1, 0, none⟩)) := (hW.out 2 (fun j hj => fr_T6 j 2 hj (by kernel_rfl))).trans rfl
                  go_simp
                  exact hK _ _ (by first | rfl | (show _ = _; simp)) (Only.refl _ _) (HS2.same rfl hS)
                · intro L vs A' u hW hL0 hnd K' hK
                  have hS := hW.wi.s
                  have r73 : A'.tmps[73]? = some (.pointer (some ⟨U0.heap.size + 1, 7, none⟩)) := by
                    obtain ⟨x, e, h⟩ := hW.tel 9 73 (by decide) (hnd 9 (by kernel_rfl)) rfl
                    rw [e]; exact congrArg some h
                  have r71 : A'.tmps[71]? = some (iv Z2) := by
                    obtain ⟨x, e, h⟩ := hW.tel 7 71 (by decide) (hnd 7 (by kernel_rfl)) rfl
                    rw [e]; exact congrArg some h
                  have hb0 := hS.bx
                  rw [hL0] at hb0
                  have hc : u.cell? ⟨U0.heap.size + 1, 7, none⟩ = some (iv 0) := hb0.cell 7
                  have hf := hb0.frozen 7
                  go_simp
                  exact hK undef _ trivial ((Only.refl (Two r (U0.heap.size + 1)) u).setCell (p := ⟨U0.heap.size + 1, 7, none⟩) (.inl (.inr rfl)) _) (HS2.put hS hL0 7 (iv Z2) rfl (by omega) (by omega) rfl)
                · intro L vs A' u hW hL0 hnd K' hK
                  have hS := hW.wi.s
                  have r72 : A'.tmps[72]? = some (iv E6) := by
                    obtain ⟨x, e, h⟩ := hW.tel 8 72 (by decide) (hnd 8 (by kernel_rfl)) rfl
                    rw [e]; exact congrArg some h
                  go_simp
                  exact hK _ _ (by first | rfl | (show _ = _; simp)) (Only.refl _ _) (HS2.same rfl hS)
              case doneT6 =>
                intro L vs u6 hS hP hall
                have e11 : vs 11 = iv E6 := hP 11 (by decide)
                have hr := HS2.out hS (q := t6) (by simp [posL, hall 5 (by decide)])
                have hbx := hS.bx
                rw [hall 10 (by decide), if_pos rfl] at hbx
                have BY := Lib.hid hbx
                have RY := Lib.hid hS.br
                have OY := Lib.hid (HO.out.then hS.on (fun j e => by
                  rcases e with e | e
                  · exact .inl e
                  · exact .inr (by omega)))
                have HRn2 := Lib.hid hr
                clear hS hP hall fr_T6 hbx hr HRn BX BR HO
                simp only [putV, List.foldl_cons, List.foldl_nil, List.setIfInBounds_toArray, List.set_cons_zero, List.set_cons_succ]
                rw [e11]
                clear e11
                generalize vs 0 = y0, vs 1 = y1, vs 2 = y2, vs 3 = y3, vs 4 = y4, vs 5 = y5, vs 6 = y6, vs 7 = y7, vs 8 = y8, vs 9 = y9
                by_cases hE6 : E6 = 0
                · have hz := HY2.out hE6
                  have ht := (A6.out hE6).symm
                  subst hz ht hE6
                  have BX := BY
                  have BR := RY
                  have HO := OY
                  have HRn := HRn2
                  clear BY RY OY HRn2
                  go_wp2
                  have fr_T7 : ∀ j s, j < 12 → (([some 79, some 80, some 81, some 82, some 83, some 84, some 78, some 85, some 86, some 87, none, some 3] : List (Option Nat)).all fun d => d != some s) = true → ([some 79, some 80, some 81, some 82, some 83, some 84, some 78, some 85, some 86, some 87, none, some 3] : List (Option Nat)).getD j none ≠ some s := by
                    intro j s hj ha e
                    rw [List.getD_eq_getElem?_getD, List.getElem?_eq_getElem (by exact hj), Option.getD_some] at e
                    have := List.all_eq_true.1 ha _ (List.getElem_mem (by exact hj))
                    rw [e] at this
                    simp at this
                  refine region_tel (by kernel_rfl) (fun k0 => ([some 79, some 80, some 81, some 82, some 83, some 84, some 78, some 85, some 86, some 87, none, some 3] : List (Option Nat)).getD k0 none) (PL [eqP (rdv r A m c),
                        eqP (.agg (tc dT)),
                        eqP (.pointer (some ⟨U0.heap.size + 1, 4, none⟩)),
                        eqP (iv cdp),
                        eqP (rv R3),
                        eqP (.tuple #[iv Z3, iv E7]),
                        eqP (.tuple #[iv Z3, iv E7]),
                        eqP (iv Z3),
                        eqP (iv E7),
                        eqP (.pointer (some ⟨U0.heap.size + 1, 8, none⟩)),
                        (fun _ _ => True),
                        eqP (iv E7)]) (fun x y => Only (Two r (U0.heap.size + 1)) x y) (fun L x => HS2 W0 r bs [(5, t7)] p2 (U0.heap.size + 1) (hc ⟨V, cb, cr, cm, cdp, (G1 : Int), Z1, Z2, 0⟩) (hc ⟨V, cb, cr, cm, cdp, (G1 : Int), Z1, Z2, Z3⟩) 10 U0.heap.size (rdc r A m c) u6 L x) 104 12 rfl (by kernel_rfl) (by kernel_rfl) rfl (by kernel_rfl) (by kernel_rfl) (stab_all ⟨fun _ _ _ h _ => h, fun _ _ _ h _ => h, fun _ _ _ h _ => h, fun _ _ _ h _ => h, fun _ _ _ h _ => h, fun _ _ _ h _ => h, fun _ _ _ h _ => h, fun _ _ _ h _ => h, fun _ _ _ h _ => h, fun _ _ _ h _ => h, fun _ _ _ _ _ => trivial, fun _ _ _ h _ => h, trivial⟩) (⟨HRn.out.nix (Only.refl _ _).drew, BX.out.only (Only.refl Nix _).drew (fun e => e), BR.out.only (Only.refl Nix _).drew (fun e => e), (Only.refl _ _).drew⟩) ?stepsT7 (fun vs => [(79, vs 0), (80, vs 1), (81, vs 2), (82, vs 3), (83, vs 4), (84, vs 5), (78, vs 6), (85, vs 7), (86, vs 8), (87, vs 9), (3, vs 11)]) (fun vs => rfl) ?doneT7
                  case stepsT7 =>
                    refine ⟨?_, ?_, ?_, ?_, ?_, ?_, ?_, ?_, ?_, ?_, ?_, ?_, trivial⟩
                    · intro L vs A' u hW hL0 hnd K' hK
                      have hS := hW.wi.s
                      have r1 : A'.tmps[1]? = some (.pointer (some ⟨U0.heap.size, 0, none⟩)) := (hW.out 1 (fun j hj => fr_T7 j 1 hj (by kernel_rfl))).trans rfl
                      have hbx := hS.br
                      refine wp_load_row 79 (.tmp 1) rfl U0.heap.size (eval_tmp r1) 79 _ (0, 0) _ hbx Tryd.underlying79 rfl Tryd.size_reader ?_
                      exact hK _ _ rfl (Only.refl _ _) (HS2.same rfl hS)
                    · intro L vs A' u hW hL0 hnd K' hK
                      have hS := hW.wi.s
                      refine wp_load_mid 61 _ rfl 2 0 rfl (tl dT) _ (range_nix HL0.out.depths hS.rt.only) Tryd.under_table rfl Tryd.size_tl_dT ?_
                      exact hK _ _ (rfl) (Only.refl _ _) (HS2.same rfl hS)
                    · intro L vs A' u hW hL0 hnd K' hK
                      have hS := hW.wi.s
                      have r2 : A'.tmps[2]? = some (.pointer (some ⟨U0.heap.size + 1, 0, none⟩)) := (hW.out 2 (fun j hj => fr_T7 j 2 hj (by kernel_rfl))).trans rfl
                      go_simp
                      exact hK _ _ (by first | rfl | (show _ = _; simp)) (Only.refl _ _) (HS2.same rfl hS)
                    · intro L vs A' u hW hL0 hnd K' hK
                      have hS := hW.wi.s
                      have r81 : A'.tmps[81]? = some (.pointer (some ⟨U0.heap.size + 1, 4, none⟩)) := by
                        obtain ⟨x, e, h⟩ := hW.tel 2 81 (by decide) (hnd 2 (by kernel_rfl)) rfl
                        rw [e]; exact congrArg some h
                      have n4 : L 4 = false := notYet hW.closed (j := 4) (by rfl) (k := 3) (by kernel_rfl) hL0
                      have n5 : L 5 = false := notYet hW.closed (j := 5) (by rfl) (k := 4) (by kernel_rfl) n4
                      have n6 : L 6 = false := notYet hW.closed (j := 6) (by rfl) (k := 5) (by kernel_rfl) n5
                      have n7 : L 7 = false := notYet hW.closed (j := 7) (by rfl) (k := 6) (by kernel_rfl) n6
                      have n10 : L 10 = false := notYet hW.closed (j := 10) (by rfl) (k := 7) (by kernel_rfl) n7
                      have hb0 := hS.bx
                      rw [n10] at hb0
                      have hc : u.cell? ⟨U0.heap.size + 1, 4, none⟩ = some (iv cdp) := hb0.cell 4
                      go_simp
                      exact hK _ _ rfl (Only.refl _ _) (HS2.same rfl hS)
                    · intro L vs A' u hW hL0 hnd K' hK
                      have hS := hW.wi.s
                      have r80 : A'.tmps[80]? = some (.agg (tc dT)) := by
                        obtain ⟨x, e, h⟩ := hW.tel 1 80 (by decide) (hnd 1 (by kernel_rfl)) rfl
                        rw [e]; exact congrArg some h
                      have r82 : A'.tmps[82]? = some (iv cdp) := by
                        obtain ⟨x, e, h⟩ := hW.tel 3 82 (by decide) (hnd 3 (by kernel_rfl)) rfl
                        rw [e]; exact congrArg some h
                      have HCL := Lib.hid (HR3.out u)
                      go_simp
                      refine (HCL.out).mono ?_
                      rintro _ u' ⟨rfl, ho'⟩
                      exact hK _ _ (rfl) ho'.nix (HS2.same rfl (HS2.nix hS ho'))
                    · intro L vs A' u hW hL0 hnd K' hK
                      have hS := hW.wi.s
                      have r79 : A'.tmps[79]? = some (rdv r A m c) := by
                        obtain ⟨x, e, h⟩ := hW.tel 0 79 (by decide) (hnd 0 (by kernel_rfl)) rfl
                        rw [e]; exact congrArg some h
                      have r83 : A'.tmps[83]? = some (rv R3) := by
                        obtain ⟨x, e, h⟩ := hW.tel 4 83 (by decide) (hnd 4 (by kernel_rfl)) rfl
                        rw [e]; exact congrArg some h
                      have HCL := Lib.hid (S7.out u (HS2.out hS (by simp [posL, hL0])))
                      go_simp
                      refine (HCL.out).mono ?_
                      rintro _ u' ⟨rfl, hr, ho'⟩
                      exact hK _ _ rfl (ho'.mono fun k e => .inl e) (HS2.took hS hr ho' (by simp [posL, andOne]) (by decide) (by omega) (by omega))
                    · intro L vs A' u hW hL0 hnd K' hK
                      have hS := hW.wi.s
                      have r84 : A'.tmps[84]? = some (.tuple #[iv Z3, iv E7]) := by
                        obtain ⟨x, e, h⟩ := hW.tel 5 84 (by decide) (hnd 5 (by kernel_rfl)) rfl
                        rw [e]; exact congrArg some h
                      go_simp
                      exact hK _ _ (by first | rfl | (show _ = _; simp)) (Only.refl _ _) (HS2.same rfl hS)
                    · intro L vs A' u hW hL0 hnd K' hK
                      have hS := hW.wi.s
                      have r78 : A'.tmps[78]? = some (.tuple #[iv Z3, iv E7]) := by
                        obtain ⟨x, e, h⟩ := hW.tel 6 78 (by decide) (hnd 6 (by kernel_rfl)) rfl
                        rw [e]; exact congrArg some h
                      go_simp
                      exact hK _ _ (by first | rfl | (show _ = _; simp)) (Only.refl _ _) (HS2.same rfl hS)
                    · intro L vs A' u hW hL0 hnd K' hK
                      have hS := hW.wi.s
                      have r78 : A'.tmps[78]? = some (.tuple #[iv Z3, iv E7]) := by
                        obtain ⟨x, e, h⟩ := hW.tel 6 78 (by decide) (hnd 6 (by kernel_rfl)) rfl
                        rw [e]; exact congrArg some h
                      go_simp
                      exact hK _ _ (by first | rfl | (show _ = _; simp)) (Only.refl _ _) (HS2.same rfl hS)
                    · intro L vs A' u hW hL0 hnd K' hK
                      have hS := hW.wi.s
                      have r2 : A'.tmps[2]? = some (.pointer (some ⟨U0.heap.size + 1, 0, none⟩)) := (hW.out 2 (fun j hj => fr_T7 j 2 hj (by kernel_rfl))).trans rfl
                      go_simp
                      exact hK _ _ (by first | rfl | (show _ = _; simp)) (Only.refl _ _) (HS2.same rfl hS)
                    · intro L vs A' u hW hL0 hnd K' hK
                      have hS := hW.wi.s
                      have r87 : A'.tmps[87]? = some (.pointer (some ⟨U0.heap.size + 1, 8, none⟩)) := by
                        obtain ⟨x, e, h⟩ := hW.tel 9 87 (by decide) (hnd 9 (by kernel_rfl)) rfl
                        rw [e]; exact congrArg some h
                      have r85 : A'.tmps[85]? = some (iv Z3) := by
                        obtain ⟨x, e, h⟩ := hW.tel 7 85 (by decide) (hnd 7 (by kernel_rfl)) rfl
                        rw [e]; exact congrArg some h
                      have hb0 := hS.bx
                      rw [hL0] at hb0
                      have hc : u.cell? ⟨U0.heap.size + 1, 8, none⟩ = some (iv 0) := hb0.cell 8
                      have hf := hb0.frozen 8
                      go_simp
                      exact hK undef _ trivial ((Only.refl (Two r (U0.heap.size + 1)) u).setCell (p := ⟨U0.heap.size + 1, 8, none⟩) (.inl (.inr rfl)) _) (HS2.put hS hL0 8 (iv Z3) rfl (by omega) (by omega) rfl)
                    · intro L vs A' u hW hL0 hnd K' hK
                      have hS := hW.wi.s
                      have r86 : A'.tmps[86]? = some (iv E7) := by
                        obtain ⟨x, e, h⟩ := hW.tel 8 86 (by decide) (hnd 8 (by kernel_rfl)) rfl
                        rw [e]; exact congrArg some h
                      go_simp
                      exact hK _ _ (by first | rfl | (show _ = _; simp)) (Only.refl _ _) (HS2.same rfl hS)
                  case doneT7 =>
                    intro L vs u7 hS hP hall
                    have e11 : vs 11 = iv E7 := hP 11 (by decide)
                    have hr := HS2.out hS (q := t7) (by simp [posL, hall 5 (by decide)])
                    have hbx := hS.bx
                    rw [hall 10 (by decide), if_pos rfl] at hbx
                    have BY := Lib.hid hbx
                    have RY := Lib.hid hS.br
                    have OY := Lib.hid (HO.out.then hS.on (fun j e => by
                      rcases e with e | e
                      · exact .inl e
                      · exact .inr (by omega)))
                    have HRn2 := Lib.hid hr
                    clear hS hP hall fr_T7 hbx hr HRn BX BR HO
                    simp only [putV, List.foldl_cons, List.foldl_nil, List.setIfInBounds_toArray, List.set_cons_zero, List.set_cons_succ]
                    rw [e11]
                    clear e11
                    generalize vs 0 = y0, vs 1 = y1, vs 2 = y2, vs 3 = y3, vs 4 = y4, vs 5 = y5, vs 6 = y6, vs 7 = y7, vs 8 = y8, vs 9 = y9
                    by_cases hE7 : E7 = 0
                    · have hz := HY3.out hE7
                      have ht := (A7.out hE7).symm
                      subst hz ht hE7
                      have BX := BY
                      have BR := RY
                      have HO := OY
                      have HRn := HRn2
                      clear BY RY OY HRn2
                      go_wp2
                      have hp3 := HLe.out _ HRn.out
                      have hp8 := HP8.out hp3
                      have hq1 : 0 ≤ (p3 : Int) / 8 := by omega
                      have hq2 : (p3 : Int) / 8 ≤ (c : Int) := by have := hp8.1; omega
                      have hq3 : ((p3 : Int) / 8).toNat = p3 / 8 := by omega
                      have hq4 : IntKind.i64.wrap ((p3 : Int) / 8) = (p3 : Int) / 8 := wraps_i64 _ (by omega) (by have := HSm.out; omega)
                      clear hp8
                      have fr_Tz : ∀ j s, j < 14 → (([some 92, some 93, some 94, some 95, some 96, some 97, some 98, some 99, some 100, some 101, some 102, some 103, none, some 3] : List (Option Nat)).all fun d => d != some s) = true → ([some 92, some 93, some 94, some 95, some 96, some 97, some 98, some 99, some 100, some 101, some 102, some 103, none, some 3] : List (Option Nat)).getD j none ≠ some s := by
                        intro j s hj ha e
                        rw [List.getD_eq_getElem?_getD, List.getElem?_eq_getElem (by exact hj), Option.getD_some] at e
                        have := List.all_eq_true.1 ha _ (List.getElem_mem (by exact hj))
                        rw [e] at this
                        simp at this
                      refine region_tel (by kernel_rfl) (fun k0 => ([some 92, some 93, some 94, some 95, some 96, some 97, some 98, some 99, some 100, some 101, some 102, some 103, none, some 3] : List (Option Nat)).getD k0 none) (PL [eqP (.agg (hc ⟨V, cb, cr, cm, cdp, (G1 : Int), Z1, Z2, Z3⟩)),
                            eqP (rdv r A m c),
                            eqP (.pointer (some ⟨U0.heap.size, 1, none⟩)),
                            eqP (.slice A m c),
                            eqP (.pointer (some ⟨U0.heap.size, 0, none⟩)),
                            eqP (.pointer (some ⟨r, 0, none⟩)),
                            eqP (iv (p3 : Nat)),
                            eqP (iv ((p3 : Int) / 8)),
                            eqP (.slice A (p3 / 8) c),
                            (fun v x => LsN r (U0.heap.size + 1) A (p3 / 8) c v x),
                            eqP (iv (SM : Nat)),
                            eqP (iv E8),
                            (fun _ _ => True),
                            eqP (iv E8)]) (fun x y => Only (Two r (U0.heap.size + 1)) x y) (fun L x => HS2 W0 r bs [(11, t8)] p3 (U0.heap.size + 1) (hc ⟨V, cb, cr, cm, cdp, (G1 : Int), Z1, Z2, Z3⟩) (hc ⟨V, cb, cr, cm, cdp, (G1 : Int), Z1, Z2, Z3⟩) 12 U0.heap.size (rdc r A m c) u7 L x) 104 14 rfl (by kernel_rfl) (by kernel_rfl) rfl (by kernel_rfl) (by kernel_rfl) (stab_all ⟨fun _ _ _ h _ => h, fun _ _ _ h _ => h, fun _ _ _ h _ => h, fun _ _ _ h _ => h, fun _ _ _ h _ => h, fun _ _ _ h _ => h, fun _ _ _ h _ => h, fun _ _ _ h _ => h, fun _ _ _ h _ => h, fun _ _ _ h ho => h.only ho, fun _ _ _ h _ => h, fun _ _ _ h _ => h, fun _ _ _ _ _ => trivial, fun _ _ _ h _ => h, trivial⟩) (⟨HRn.out.nix (Only.refl _ _).drew, BX.out.only (Only.refl Nix _).drew (fun e => e), BR.out.only (Only.refl Nix _).drew (fun e => e), (Only.refl _ _).drew⟩) ?stepsTz (fun vs => [(92, vs 0), (93, vs 1), (94, vs 2), (95, vs 3), (96, vs 4), (97, vs 5), (98, vs 6), (99, vs 7), (100, vs 8), (101, vs 9), (102, vs 10), (103, vs 11), (3, vs 13)]) (fun vs => rfl) ?doneTz
                      case stepsTz =>
                        refine ⟨?_, ?_, ?_, ?_, ?_, ?_, ?_, ?_, ?_, ?_, ?_, ?_, ?_, ?_, trivial⟩
                        · intro L vs A' u hW hL0 hnd K' hK
                          have hS := hW.wi.s
                          have r2 : A'.tmps[2]? = some (.pointer (some ⟨U0.heap.size + 1, 0, none⟩)) := (hW.out 2 (fun j hj => fr_Tz j 2 hj (by kernel_rfl))).trans rfl
                          have hb0 := hS.bx
                          have hb1 : Box u (U0.heap.size + 1) 23 (hc ⟨V, cb, cr, cm, cdp, (G1 : Int), Z1, Z2, Z3⟩) := by cases hq : L 12 with | true => rw [hq] at hb0; exact hb0 | false => rw [hq] at hb0; exact hb0
                          refine wp_load_row 23 (.tmp 2) rfl (U0.heap.size + 1) (eval_tmp r2) 23 _ (0, 0) _ hb1 Tryd.underlying23 rfl Tryd.size_header ?_
                          exact hK _ _ rfl (Only.refl _ _) (HS2.same rfl hS)
                        · intro L vs A' u hW hL0 hnd K' hK
                          have hS := hW.wi.s
                          have r1 : A'.tmps[1]? = some (.pointer (some ⟨U0.heap.size, 0, none⟩)) := (hW.out 1 (fun j hj => fr_Tz j 1 hj (by kernel_rfl))).trans rfl
                          have hbx := hS.br
                          refine wp_load_row 79 (.tmp 1) rfl U0.heap.size (eval_tmp r1) 79 _ (0, 0) _ hbx Tryd.underlying79 rfl Tryd.size_reader ?_
                          exact hK _ _ rfl (Only.refl _ _) (HS2.same rfl hS)
                        · intro L vs A' u hW hL0 hnd K' hK
                          have hS := hW.wi.s
                          have r1 : A'.tmps[1]? = some (.pointer (some ⟨U0.heap.size, 0, none⟩)) := (hW.out 1 (fun j hj => fr_Tz j 1 hj (by kernel_rfl))).trans rfl
                          go_simp
                          exact hK _ _ (by first | rfl | (show _ = _; simp)) (Only.refl _ _) (HS2.same rfl hS)
                        · intro L vs A' u hW hL0 hnd K' hK
                          have hS := hW.wi.s
                          have r94 : A'.tmps[94]? = some (.pointer (some ⟨U0.heap.size, 1, none⟩)) := by
                            obtain ⟨x, e, h⟩ := hW.tel 2 94 (by decide) (hnd 2 (by kernel_rfl)) rfl
                            rw [e]; exact congrArg some h
                          have hc : u.cell? ⟨U0.heap.size, 1, none⟩ = some (.slice A m c) := hS.br.cell 1
                          go_simp
                          exact hK _ _ rfl (Only.refl _ _) (HS2.same rfl hS)
                        · intro L vs A' u hW hL0 hnd K' hK
                          have hS := hW.wi.s
                          have r1 : A'.tmps[1]? = some (.pointer (some ⟨U0.heap.size, 0, none⟩)) := (hW.out 1 (fun j hj => fr_Tz j 1 hj (by kernel_rfl))).trans rfl
                          go_simp
                          exact hK _ _ (by first | rfl | (show _ = _; simp)) (Only.refl _ _) (HS2.same rfl hS)
                        · intro L vs A' u hW hL0 hnd K' hK
                          have hS := hW.wi.s
                          have r96 : A'.tmps[96]? = some (.pointer (some ⟨U0.heap.size, 0, none⟩)) := by
                            obtain ⟨x, e, h⟩ := hW.tel 4 96 (by decide) (hnd 4 (by kernel_rfl)) rfl
                            rw [e]; exact congrArg some h
                          have hc : u.cell? ⟨U0.heap.size, 0, none⟩ = some (.pointer (some ⟨r, 0, none⟩)) := hS.br.cell 0
                          go_simp
                          exact hK _ _ rfl (Only.refl _ _) (HS2.same rfl hS)
                        · intro L vs A' u hW hL0 hnd K' hK
                          have hS := hW.wi.s
                          have n7 : L 7 = false := notYet hW.closed (j := 7) (by rfl) (k := 6) (by kernel_rfl) hL0
                          have n8 : L 8 = false := notYet hW.closed (j := 8) (by rfl) (k := 7) (by kernel_rfl) n7
                          have n9 : L 9 = false := notYet hW.closed (j := 9) (by rfl) (k := 8) (by kernel_rfl) n8
                          have n10 : L 10 = false := notYet hW.closed (j := 10) (by rfl) (k := 9) (by kernel_rfl) n9
                          have n11 : L 11 = false := notYet hW.closed (j := 11) (by rfl) (k := 10) (by kernel_rfl) n10
                          have r97 : A'.tmps[97]? = some (.pointer (some ⟨r, 0, none⟩)) := by
                            obtain ⟨x, e, h⟩ := hW.tel 5 97 (by decide) (hnd 5 (by kernel_rfl)) rfl
                            rw [e]; exact congrArg some h
                          have HCL := Lib.hid (S9.out u (HS2.out hS (by simp [posL, n11])))
                          go_simp
                          refine (HCL.out).mono ?_
                          rintro _ u' ⟨rfl, rfl⟩
                          exact hK _ _ rfl (Only.refl _ _) (HS2.same rfl hS)
                        · intro L vs A' u hW hL0 hnd K' hK
                          have hS := hW.wi.s
                          have r98 : A'.tmps[98]? = some (iv (p3 : Nat)) := by
                            obtain ⟨x, e, h⟩ := hW.tel 6 98 (by decide) (hnd 6 (by kernel_rfl)) rfl
                            rw [e]; exact congrArg some h
                          go_simp
                          exact hK _ _ (by first | rfl | (show _ = _; simp)) (Only.refl _ _) (HS2.same rfl hS)
                        · intro L vs A' u hW hL0 hnd K' hK
                          have hS := hW.wi.s
                          have r95 : A'.tmps[95]? = some (.slice A m c) := by
                            obtain ⟨x, e, h⟩ := hW.tel 3 95 (by decide) (hnd 3 (by kernel_rfl)) rfl
                            rw [e]; exact congrArg some h
                          have r99 : A'.tmps[99]? = some (iv ((p3 : Int) / 8)) := by
                            obtain ⟨x, e, h⟩ := hW.tel 7 99 (by decide) (hnd 7 (by kernel_rfl)) rfl
                            rw [e]; exact congrArg some h
                          go_simp
                          exact hK _ _ rfl (Only.refl _ _) (HS2.same rfl hS)
                        · intro L vs A' u hW hL0 hnd K' hK
                          have hS := hW.wi.s
                          have r100 : A'.tmps[100]? = some (.slice A (p3 / 8) c) := by
                            obtain ⟨x, e, h⟩ := hW.tel 8 100 (by decide) (hnd 8 (by kernel_rfl)) rfl
                            rw [e]; exact congrArg some h
                          have hzr := hS.rt.mem
                          have hzb := hS.bx.lt
                          go_simp
                          exact hK _ _ (show LsN r (U0.heap.size + 1) A (p3 / 8) c _ _ from ⟨u.heap.size, rfl, by omega, by omega, by simp⟩) ((Only.refl _ _).alloc _) (HS2.same rfl (HS2.nix hS ((Only.refl _ _).alloc _)))
                        · intro L vs A' u hW hL0 hnd K' hK
                          have hS := hW.wi.s
                          obtain ⟨x101, r101, p101⟩ := hW.tel 9 101 (by decide) (hnd 9 (by kernel_rfl)) rfl
                          have HCL := Lib.hid (HSu.out x101 u (HL0.out.nix hS.rt.only) (p101.lists (HTk.out u hS.rt.only hp3)))
                          go_simp
                          refine (HCL.out).mono ?_
                          rintro _ u' ⟨rfl, ho'⟩
                          exact hK _ _ rfl ho'.nix (HS2.same rfl (HS2.nix hS ho'))
                        · intro L vs A' u hW hL0 hnd K' hK
                          have hS := hW.wi.s
                          have r93 : A'.tmps[93]? = some (rdv r A m c) := by
                            obtain ⟨x, e, h⟩ := hW.tel 1 93 (by decide) (hnd 1 (by kernel_rfl)) rfl
                            rw [e]; exact congrArg some h
                          have r102 : A'.tmps[102]? = some (iv (SM : Nat)) := by
                            obtain ⟨x, e, h⟩ := hW.tel 10 102 (by decide) (hnd 10 (by kernel_rfl)) rfl
                            rw [e]; exact congrArg some h
                          have HCL := Lib.hid (S8.out u (HS2.out hS (by simp [posL, hL0])))
                          go_simp
                          refine (HCL.out).mono ?_
                          rintro _ u' ⟨rfl, hr, ho'⟩
                          exact hK _ _ rfl (ho'.mono fun k e => .inl e) (HS2.took hS hr ho' (by simp [posL, andOne]) (by decide) (by omega) (by omega))
                        · intro L vs A' u hW hL0 hnd K' hK
                          have hS := hW.wi.s
                          have r2 : A'.tmps[2]? = some (.pointer (some ⟨U0.heap.size + 1, 0, none⟩)) := (hW.out 2 (fun j hj => fr_Tz j 2 hj (by kernel_rfl))).trans rfl
                          have r92 : A'.tmps[92]? = some (.agg (hc ⟨V, cb, cr, cm, cdp, (G1 : Int), Z1, Z2, Z3⟩)) := by
                            obtain ⟨x, e, h⟩ := hW.tel 0 92 (by decide) (hnd 0 (by kernel_rfl)) rfl
                            rw [e]; exact congrArg some h
                          have hb0 := hS.bx
                          rw [hL0] at hb0
                          refine wp_store_row 23 (.tmp 2) (.tmp 92) rfl (U0.heap.size + 1) 23 (hc ⟨V, cb, cr, cm, cdp, (G1 : Int), Z1, Z2, Z3⟩) (hc ⟨V, cb, cr, cm, cdp, (G1 : Int), Z1, Z2, Z3⟩) (eval_tmp r2) (eval_tmp r92) hb0 Tryd.size_header rfl (hc_one _) ?_
                          intro wz hbz hoz
                          exact hK undef _ trivial (hoz.mono fun k e => .inr e) (HS2.row hS hL0 hbz hoz (by omega) (by omega) rfl)
                        · intro L vs A' u hW hL0 hnd K' hK
                          have hS := hW.wi.s
                          have r103 : A'.tmps[103]? = some (iv E8) := by
                            obtain ⟨x, e, h⟩ := hW.tel 11 103 (by decide) (hnd 11 (by kernel_rfl)) rfl
                            rw [e]; exact congrArg some h
                          go_simp
                          exact hK _ _ (by first | rfl | (show _ = _; simp)) (Only.refl _ _) (HS2.same rfl hS)
                      case doneTz =>
                        intro L vs u8 hS hP hall
                        have e13 : vs 13 = iv E8 := hP 13 (by decide)
                        have hr := HS2.out hS (q := t8) (by simp [posL, hall 11 (by decide)])
                        have hbx := hS.bx
                        rw [hall 12 (by decide), if_pos rfl] at hbx
                        have HLd := Lib.hid hbx
                        have OW := Lib.hid (HO.out.then hS.on (fun j e => by
                          rcases e with e | e
                          · exact .inl e
                          · exact .inr (by omega)))
                        have HRn2 := Lib.hid hr
                        clear hS hP hall fr_Tz hbx hr HRn BX BR HO
                        simp only [putV, List.foldl_cons, List.foldl_nil, List.setIfInBounds_toArray, List.set_cons_zero, List.set_cons_succ]
                        rw [e13]
                        clear e13
                        generalize vs 0 = y0, vs 1 = y1, vs 2 = y2, vs 3 = y3, vs 4 = y4, vs 5 = y5, vs 6 = y6, vs 7 = y7, vs 8 = y8, vs 9 = y9, vs 10 = y10, vs 11 = y11
                        have hF : F = E8 := by rw [HE.out]; simp only [fstE, if_true]; split <;> simp_all
                        subst hF
                        go_wp2
                        refine bodyPost_ret (v := .tuple #[hv ⟨V, cb, cr, cm, cdp, (G1 : Int), Z1, Z2, Z3⟩, iv F]) ?_ rfl ?_
                        · have hb := HLd.out
                          have k0 := hb.cell 0
                          have k1 := hb.cell 1
                          have k2 := hb.cell 2
                          have k3 := hb.cell 3
                          have k4 := hb.cell 4
                          have k5 := hb.cell 5
                          have k6 := hb.cell 6
                          have k7 := hb.cell 7
                          have k8 := hb.cell 8
                          simp only [hc, List.getElem?_toArray, List.getElem?_cons_zero, List.getElem?_cons_succ] at k0 k1 k2 k3 k4 k5 k6 k7 k8
                          simp [results, Tryd.f44, go_sem, k0, k1, k2, k3, k4, k5, k6, k7, k8, hv, hc]
                        · exact HQ.out _ _ _ ⟨rfl, OW.out, fun e => by
                            have ht := A8.out e
                            subst ht
                            exact ⟨HX.out.symm, HRn2.out⟩⟩
                    · skip
                      have hF : F = E7 := by rw [HE.out]; simp [fstE, hE7]
                      subst hF
                      go_wp2_with (first
                        | refine wpList_load_row rfl 23 (.tmp 2) rfl (U0.heap.size + 1) rfl 23 (hc ⟨V, cb, cr, cm, cdp, (G1 : Int), Z1, Z2, Z3⟩) (0, 0) _ BY.out Tryd.underlying23 rfl Tryd.size_header ?_
                        | refine wpList_store_row rfl 23 (.tmp 2) (.tmp 90) rfl rfl (U0.heap.size + 1) 23 (hc ⟨V, cb, cr, cm, cdp, (G1 : Int), Z1, Z2, Z3⟩) (hc ⟨V, cb, cr, cm, cdp, (G1 : Int), Z1, Z2, Z3⟩) rfl rfl BY.out Tryd.size_header rfl (hc_one _) ?st)
                      case st =>
                        intro wz hbz hoz
                        have OW := Lib.hid (OY.out.then hoz (fun i e => .inr (by rw [show i = U0.heap.size + 1 from e]; omega)))
                        have HLd := Lib.hid hbz
                        clear hbz hoz
                        go_wp2
                        refine bodyPost_ret (v := .tuple #[hv ⟨V, cb, cr, cm, cdp, (G1 : Int), Z1, Z2, Z3⟩, iv F]) ?_ rfl ?_
                        · have hb := HLd.out
                          have k0 := hb.cell 0
                          have k1 := hb.cell 1
                          have k2 := hb.cell 2
                          have k3 := hb.cell 3
                          have k4 := hb.cell 4
                          have k5 := hb.cell 5
                          have k6 := hb.cell 6
                          have k7 := hb.cell 7
                          have k8 := hb.cell 8
                          simp only [hc, List.getElem?_toArray, List.getElem?_cons_zero, List.getElem?_cons_succ] at k0 k1 k2 k3 k4 k5 k6 k7 k8
                          simp [results, Tryd.f44, go_sem, k0, k1, k2, k3, k4, k5, k6, k7, k8, hv, hc]
                        · exact HQ.out _ _ _ ⟨rfl, OW.out, fun e => absurd e hE7⟩
                · skip
                  have hF : F = E6 := by rw [HE.out]; simp [fstE, hE6]
                  subst hF
                  go_wp2_with (first
                    | refine wpList_load_row rfl 23 (.tmp 2) rfl (U0.heap.size + 1) rfl 23 (hc ⟨V, cb, cr, cm, cdp, (G1 : Int), Z1, Z2, 0⟩) (0, 0) _ BY.out Tryd.underlying23 rfl Tryd.size_header ?_
                    | refine wpList_store_row rfl 23 (.tmp 2) (.tmp 76) rfl rfl (U0.heap.size + 1) 23 (hc ⟨V, cb, cr, cm, cdp, (G1 : Int), Z1, Z2, 0⟩) (hc ⟨V, cb, cr, cm, cdp, (G1 : Int), Z1, Z2, 0⟩) rfl rfl BY.out Tryd.size_header rfl (hc_one _) ?st)
                  case st =>
                    intro wz hbz hoz
                    have OW := Lib.hid (OY.out.then hoz (fun i e => .inr (by rw [show i = U0.heap.size + 1 from e]; omega)))
                    have HLd := Lib.hid hbz
                    clear hbz hoz
                    go_wp2
                    refine bodyPost_ret (v := .tuple #[hv ⟨V, cb, cr, cm, cdp, (G1 : Int), Z1, Z2, 0⟩, iv F]) ?_ rfl ?_
                    · have hb := HLd.out
                      have k0 := hb.cell 0
                      have k1 := hb.cell 1
                      have k2 := hb.cell 2
                      have k3 := hb.cell 3
                      have k4 := hb.cell 4
                      have k5 := hb.cell 5
                      have k6 := hb.cell 6
                      have k7 := hb.cell 7
                      have k8 := hb.cell 8
                      simp only [hc, List.getElem?_toArray, List.getElem?_cons_zero, List.getElem?_cons_succ] at k0 k1 k2 k3 k4 k5 k6 k7 k8
                      simp [results, Tryd.f44, go_sem, k0, k1, k2, k3, k4, k5, k6, k7, k8, hv, hc]
                    · exact HQ.out _ _ _ ⟨rfl, OW.out, fun e => absurd e hE6⟩
            · skip
              have hF : F = E5 := by rw [HE.out]; simp [fstE, hE5]
              subst hF
              go_wp2_with (first
                | refine wpList_load_row rfl 23 (.tmp 2) rfl (U0.heap.size + 1) rfl 23 (hc ⟨V, cb, cr, cm, cdp, (G1 : Int), Z1, 0, 0⟩) (0, 0) _ BY.out Tryd.underlying23 rfl Tryd.size_header ?_
                | refine wpList_store_row rfl 23 (.tmp 2) (.tmp 62) rfl rfl (U0.heap.size + 1) 23 (hc ⟨V, cb, cr, cm, cdp, (G1 : Int), Z1, 0, 0⟩) (hc ⟨V, cb, cr, cm, cdp, (G1 : Int), Z1, 0, 0⟩) rfl rfl BY.out Tryd.size_header rfl (hc_one _) ?st)
              case st =>
                intro wz hbz hoz
                have OW := Lib.hid (OY.out.then hoz (fun i e => .inr (by rw [show i = U0.heap.size + 1 from e]; omega)))
                have HLd := Lib.hid hbz
                clear hbz hoz
                go_wp2
                refine bodyPost_ret (v := .tuple #[hv ⟨V, cb, cr, cm, cdp, (G1 : Int), Z1, 0, 0⟩, iv F]) ?_ rfl ?_
                · have hb := HLd.out
                  have k0 := hb.cell 0
                  have k1 := hb.cell 1
                  have k2 := hb.cell 2
                  have k3 := hb.cell 3
                  have k4 := hb.cell 4
                  have k5 := hb.cell 5
                  have k6 := hb.cell 6
                  have k7 := hb.cell 7
                  have k8 := hb.cell 8
                  simp only [hc, List.getElem?_toArray, List.getElem?_cons_zero, List.getElem?_cons_succ] at k0 k1 k2 k3 k4 k5 k6 k7 k8
                  simp [results, Tryd.f44, go_sem, k0, k1, k2, k3, k4, k5, k6, k7, k8, hv, hc]
                · exact HQ.out _ _ _ ⟨rfl, OW.out, fun e => absurd e hE5⟩
        · skip
          have x5 : u4.cell? ⟨U0.heap.size + 1, 5, none⟩ = some (iv 0) := bx.cell 5
          have y5 := bx.frozen 5
          have hby : Box (u4.setCell ⟨U0.heap.size + 1, 5, none⟩ (iv ((G1 : Int)))) (U0.heap.size + 1) 23 (hc ⟨V, cb, cr, cm, cdp, (G1 : Int), 0, 0, 0⟩) := (bx.put 5 (iv ((G1 : Int))))
          have hry := (br.off (p := ⟨U0.heap.size + 1, 5, none⟩) (by show U0.heap.size ≠ U0.heap.size + 1; omega) (iv ((G1 : Int))))
          have hoy := (on.setCell (p := ⟨U0.heap.size + 1, 5, none⟩) (.inr (by show U0.heap.size ≤ U0.heap.size + 1; omega)) (iv ((G1 : Int))))
          have BY := Lib.hid hby
          have RY := Lib.hid hry
          have OY := Lib.hid hoy
          clear hby hry hoy
          have hF : F = E4 := by rw [HE.out]; simp [fstE, hE4]
          subst hF
          go_wp2_with (first
            | refine wpList_load_row rfl 23 (.tmp 2) rfl (U0.heap.size + 1) rfl 23 (hc ⟨V, cb, cr, cm, cdp, (G1 : Int), 0, 0, 0⟩) (0, 0) _ BY.out Tryd.underlying23 rfl Tryd.size_header ?_
            | refine wpList_store_row rfl 23 (.tmp 2) (.tmp 48) rfl rfl (U0.heap.size + 1) 23 (hc ⟨V, cb, cr, cm, cdp, (G1 : Int), 0, 0, 0⟩) (hc ⟨V, cb, cr, cm, cdp, (G1 : Int), 0, 0, 0⟩) rfl rfl BY.out Tryd.size_header rfl (hc_one _) ?st)
          case st =>
            intro wz hbz hoz
            have OW := Lib.hid (OY.out.then hoz (fun i e => .inr (by rw [show i = U0.heap.size + 1 from e]; omega)))
            have HLd := Lib.hid hbz
            clear hbz hoz
            go_wp2
            refine bodyPost_ret (v := .tuple #[hv ⟨V, cb, cr, cm, cdp, (G1 : Int), 0, 0, 0⟩, iv F]) ?_ rfl ?_
            · have hb := HLd.out
              have k0 := hb.cell 0
              have k1 := hb.cell 1
              have k2 := hb.cell 2
              have k3 := hb.cell 3
              have k4 := hb.cell 4
              have k5 := hb.cell 5
              have k6 := hb.cell 6
              have k7 := hb.cell 7
              have k8 := hb.cell 8
              simp only [hc, List.getElem?_toArray, List.getElem?_cons_zero, List.getElem?_cons_succ] at k0 k1 k2 k3 k4 k5 k6 k7 k8
              simp [results, Tryd.f44, go_sem, k0, k1, k2, k3, k4, k5, k6, k7, k8, hv, hc]
            · exact HQ.out _ _ _ ⟨rfl, OW.out, fun e => absurd e hE4⟩
      · skip
        have x3 : u3.cell? ⟨U0.heap.size + 1, 3, none⟩ = some (iv 0) := bx.cell 3
        have y3 := bx.frozen 3
        have x4 : u3.cell? ⟨U0.heap.size + 1, 4, none⟩ = some (iv 0) := bx.cell 4
        have y4 := bx.frozen 4
        have hby : Box ((u3.setCell ⟨U0.heap.size + 1, 3, none⟩ (iv a3)).setCell ⟨U0.heap.size + 1, 4, none⟩ (iv b3)) (U0.heap.size + 1) 23 (hc ⟨V, cb, cr, a3, b3, 0, 0, 0, 0⟩) := ((bx.put 3 (iv a3)).put 4 (iv b3))
        have hry := ((br.off (p := ⟨U0.heap.size + 1, 3, none⟩) (by show U0.heap.size ≠ U0.heap.size + 1; omega) (iv a3)).off (p := ⟨U0.heap.size + 1, 4, none⟩) (by show U0.heap.size ≠ U0.heap.size + 1; omega) (iv b3))
        have hoy := ((on.setCell (p := ⟨U0.heap.size + 1, 3, none⟩) (.inr (by show U0.heap.size ≤ U0.heap.size + 1; omega)) (iv a3)).setCell (p := ⟨U0.heap.size + 1, 4, none⟩) (.inr (by show U0.heap.size ≤ U0.heap.size + 1; omega)) (iv b3))
        have BY := Lib.hid hby
        have RY := Lib.hid hry
        have OY := Lib.hid hoy
        clear hby hry hoy
        have hF : F = E3 := by rw [HE.out]; simp [fstE, hE3]
        subst hF
        go_wp2_with (first
          | refine wpList_load_row rfl 23 (.tmp 2) rfl (U0.heap.size + 1) rfl 23 (hc ⟨V, cb, cr, a3, b3, 0, 0, 0, 0⟩) (0, 0) _ BY.out Tryd.underlying23 rfl Tryd.size_header ?_
          | refine wpList_store_row rfl 23 (.tmp 2) (.tmp 36) rfl rfl (U0.heap.size + 1) 23 (hc ⟨V, cb, cr, a3, b3, 0, 0, 0, 0⟩) (hc ⟨V, cb, cr, a3, b3, 0, 0, 0, 0⟩) rfl rfl BY.out Tryd.size_header rfl (hc_one _) ?st)
        case st =>
          intro wz hbz hoz
          have OW := Lib.hid (OY.out.then hoz (fun i e => .inr (by rw [show i = U0.heap.size + 1 from e]; omega)))
          have HLd := Lib.hid hbz
          clear hbz hoz
          go_wp2
          refine bodyPost_ret (v := .tuple #[hv ⟨V, cb, cr, a3, b3, 0, 0, 0, 0⟩, iv F]) ?_ rfl ?_
          · have hb := HLd.out
            have k0 := hb.cell 0
            have k1 := hb.cell 1
            have k2 := hb.cell 2
            have k3 := hb.cell 3
            have k4 := hb.cell 4
            have k5 := hb.cell 5
            have k6 := hb.cell 6
            have k7 := hb.cell 7
            have k8 := hb.cell 8
            simp only [hc, List.getElem?_toArray, List.getElem?_cons_zero, List.getElem?_cons_succ] at k0 k1 k2 k3 k4 k5 k6 k7 k8
            simp [results, Tryd.f44, go_sem, k0, k1, k2, k3, k4, k5, k6, k7, k8, hv, hc]
          · exact HQ.out _ _ _ ⟨rfl, OW.out, fun e => absurd e hE3⟩
    · skip
      have x1 : u2.cell? ⟨U0.heap.size + 1, 1, none⟩ = some (iv 0) := bx.cell 1
      have y1 := bx.frozen 1
      have x2 : u2.cell? ⟨U0.heap.size + 1, 2, none⟩ = some (iv 0) := bx.cell 2
      have y2 := bx.frozen 2
      have hby : Box ((u2.setCell ⟨U0.heap.size + 1, 1, none⟩ (iv a2)).setCell ⟨U0.heap.size + 1, 2, none⟩ (iv b2)) (U0.heap.size + 1) 23 (hc ⟨V, a2, b2, 0, 0, 0, 0, 0, 0⟩) := ((bx.put 1 (iv a2)).put 2 (iv b2))
      have hry := ((br.off (p := ⟨U0.heap.size + 1, 1, none⟩) (by show U0.heap.size ≠ U0.heap.size + 1; omega) (iv a2)).off (p := ⟨U0.heap.size + 1, 2, none⟩) (by show U0.heap.size ≠ U0.heap.size + 1; omega) (iv b2))
      have hoy := ((on.setCell (p := ⟨U0.heap.size + 1, 1, none⟩) (.inr (by show U0.heap.size ≤ U0.heap.size + 1; omega)) (iv a2)).setCell (p := ⟨U0.heap.size + 1, 2, none⟩) (.inr (by show U0.heap.size ≤ U0.heap.size + 1; omega)) (iv b2))
      have BY := Lib.hid hby
      have RY := Lib.hid hry
      have OY := Lib.hid hoy
      clear hby hry hoy
      have hF : F = E2 := by rw [HE.out]; simp [fstE, hE2]
      subst hF
      go_wp2_with (first
        | refine wpList_load_row rfl 23 (.tmp 2) rfl (U0.heap.size + 1) rfl 23 (hc ⟨V, a2, b2, 0, 0, 0, 0, 0, 0⟩) (0, 0) _ BY.out Tryd.underlying23 rfl Tryd.size_header ?_
        | refine wpList_store_row rfl 23 (.tmp 2) (.tmp 24) rfl rfl (U0.heap.size + 1) 23 (hc ⟨V, a2, b2, 0, 0, 0, 0, 0, 0⟩) (hc ⟨V, a2, b2, 0, 0, 0, 0, 0, 0⟩) rfl rfl BY.out Tryd.size_header rfl (hc_one _) ?st)
      case st =>
        intro wz hbz hoz
        have OW := Lib.hid (OY.out.then hoz (fun i e => .inr (by rw [show i = U0.heap.size + 1 from e]; omega)))
        have HLd := Lib.hid hbz
        clear hbz hoz
        go_wp2
        refine bodyPost_ret (v := .tuple #[hv ⟨V, a2, b2, 0, 0, 0, 0, 0, 0⟩, iv F]) ?_ rfl ?_
        · have hb := HLd.out
          have k0 := hb.cell 0
          have k1 := hb.cell 1
          have k2 := hb.cell 2
          have k3 := hb.cell 3
          have k4 := hb.cell 4
          have k5 := hb.cell 5
          have k6 := hb.cell 6
          have k7 := hb.cell 7
          have k8 := hb.cell 8
          simp only [hc, List.getElem?_toArray, List.getElem?_cons_zero, List.getElem?_cons_succ] at k0 k1 k2 k3 k4 k5 k6 k7 k8
          simp [results, Tryd.f44, go_sem, k0, k1, k2, k3, k4, k5, k6, k7, k8, hv, hc]
        · exact HQ.out _ _ _ ⟨rfl, OW.out, fun e => absurd e hE2⟩
  · skip
    have x0 : u1.cell? ⟨U0.heap.size + 1, 0, none⟩ = some (.bool false) := bx.cell 0
    have y0 := bx.frozen 0
    have hby : Box (u1.setCell ⟨U0.heap.size + 1, 0, none⟩ (.bool b1)) (U0.heap.size + 1) 23 (hc ⟨b1, 0, 0, 0, 0, 0, 0, 0, 0⟩) := (bx.put 0 (.bool b1))
    have hry := (br.off (p := ⟨U0.heap.size + 1, 0, none⟩) (by show U0.heap.size ≠ U0.heap.size + 1; omega) (.bool b1))
    have hoy := (on.setCell (p := ⟨U0.heap.size + 1, 0, none⟩) (.inr (by show U0.heap.size ≤ U0.heap.size + 1; omega)) (.bool b1))
    have BY := Lib.hid hby
    have RY := Lib.hid hry
    have OY := Lib.hid hoy
    clear hby hry hoy
    have hF : F = E1 := by rw [HE.out]; simp [fstE, hE1]
    subst hF
    go_wp2_with (first
      | refine wpList_load_row rfl 23 (.tmp 2) rfl (U0.heap.size + 1) rfl 23 (hc ⟨b1, 0, 0, 0, 0, 0, 0, 0, 0⟩) (0, 0) _ BY.out Tryd.underlying23 rfl Tryd.size_header ?_
      | refine wpList_store_row rfl 23 (.tmp 2) (.tmp 12) rfl rfl (U0.heap.size + 1) 23 (hc ⟨b1, 0, 0, 0, 0, 0, 0, 0, 0⟩) (hc ⟨b1, 0, 0, 0, 0, 0, 0, 0, 0⟩) rfl rfl BY.out Tryd.size_header rfl (hc_one _) ?st)
    case st =>
      intro wz hbz hoz
      have OW := Lib.hid (OY.out.then hoz (fun i e => .inr (by rw [show i = U0.heap.size + 1 from e]; omega)))
      have HLd := Lib.hid hbz
      clear hbz hoz
      go_wp2
      refine bodyPost_ret (v := .tuple #[hv ⟨b1, 0, 0, 0, 0, 0, 0, 0, 0⟩, iv F]) ?_ rfl ?_
      · have hb := HLd.out
        have k0 := hb.cell 0
        have k1 := hb.cell 1
        have k2 := hb.cell 2
        have k3 := hb.cell 3
        have k4 := hb.cell 4
        have k5 := hb.cell 5
        have k6 := hb.cell 6
        have k7 := hb.cell 7
        have k8 := hb.cell 8
        simp only [hc, List.getElem?_toArray, List.getElem?_cons_zero, List.getElem?_cons_succ] at k0 k1 k2 k3 k4 k5 k6 k7 k8
        simp [results, Tryd.f44, go_sem, k0, k1, k2, k3, k4, k5, k6, k7, k8, hv, hc]
      · exact HQ.out _ _ _ ⟨rfl, OW.out, fun e => absurd e hE1⟩
end Go.Proofs.YteahiigfclabfaaDoor.H
