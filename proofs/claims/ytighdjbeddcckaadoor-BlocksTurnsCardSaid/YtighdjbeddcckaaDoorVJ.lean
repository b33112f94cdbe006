/-
  The statements' Bytes; the chapter's examples.
-/
import Derived.Test.YtighdjbeddcckaaDoorVE
import Derived.Test.YtighdjbeddcckaaDoorVK
import Derived.Laws.StructEq
namespace Go.Proofs.YtighdjbeddcckaaDoor
open Go.RowKit Go.Shelf

def EqP (w : World) (m : Nat) (s5 : Value) (wr : World) : Prop := ∃ j : Nat, j ≤ m ∧ s5 = iv j ∧ Only Nix w wr
set_option maxHeartbeats 400000 in
theorem equal_any {w : World} (A B : Option Addr) (c d : Nat) (bs : List Nat) (ha : Src w (.slice A bs.length c) bs) (hb : Src w (.slice B bs.length d) bs) :
    Calls Tryd.prog 10 #[.slice A bs.length c, .slice B bs.length d] w fun e w' => e = .returned (.bool true) ∧ Only Nix w w' := by
  have Ha := Lib.hid ha
  have Hb := Lib.hid hb
  have hsm := ha.small
  clear ha hb
  go_enter Tryd.func10, Tryd.ntmps10
  go_wp2
  go_loopw [5] (fun s5 wr => EqP w bs.length s5 wr) (fun s5 _ => bs.length - (intOf s5).toNat)
  case atStart => exact ⟨0, Nat.zero_le _, rfl, Only.refl _ _⟩
  case round =>
    obtain ⟨j, hj, rfl, ho⟩ := hrel
    by_cases hlt : j < bs.length
    · obtain ⟨ad, rfl, hx⟩ := (Ha.out.nix ho).at_ hlt
      obtain ⟨bd, rfl, hy⟩ := (Hb.out.nix ho).at_ hlt
      have hx256 := Ha.out.lt _ (List.getElem_mem hlt)
      generalize bs[j] = x at *
      unfold byt at hx hy
      have hlt2 : (j : Int) < (bs.length : Int) := by omega
      go_wp2
      go_quiet (fail)
      go_wp2
      go_roundw
      case rel => exact ⟨j + 1, by omega, by go_num, ho.drewN _⟩
      case measure => simp [intOf]; omega
    · have hlt2 : decide (j < bs.length) = false := by simp; omega
      go_wp2
      go_ret
      exact ⟨rfl, ho⟩
/-- .. of any spelling -/
theorem equal_at {u : World} {v1 v2 : Value} {bs : List Nat} (ha : Src u v1 bs) (hb : Src u v2 bs) :
    Calls Tryd.prog 10 #[v1, v2] u fun e w' => e = .returned (.bool true) ∧ Only Nix u w' := by
  obtain ⟨A, c, rfl⟩ := ha.slice
  obtain ⟨B, d, rfl⟩ := hb.slice
  exact equal_any A B c d bs ha hb
/-- one cell of a row of the call's own is written -/
theorem Owns.put {α : Type} {w : World} {base g n c : Nat} {e : TypeId} {f : α → Value} {xs : List α} (h : Owns w base e f (.slice (some ⟨g, 0, none⟩) n c) xs) (j : Nat) (y : α) : Owns (w.setCell ⟨g, j, none⟩ (f y)) base e f (.slice (some ⟨g, 0, none⟩) n c) (xs.set j y) := by
  have hlen := h.1
  rcases h.2 with ⟨e1, _⟩ | ⟨g', cap, cur, e1, hb, hg, hle, hcm, hsz, ht⟩
  · injection e1 with e1 _ _
    cases e1
  · injection e1 with e1 e2 e3
    injection e1 with e1
    injection e1 with e1 _ _
    subst e1 e3
    have hB : Box w g e cur := hg
    refine ⟨by simp, .inr ⟨g, c, cur.setIfInBounds j (f y), by rw [e2, List.length_set], hb, hB.put j (f y), by rw [List.length_set]; exact hle, hcm, by simpa using hsz, ?_⟩⟩
    rw [List.length_set, Array.toList_setIfInBounds, List.take_set, ht, List.map_set]
theorem Owns.at_cell {α : Type} {w : World} {base g n c : Nat} {e : TypeId} {f : α → Value} {xs : List α} (h : Owns w base e f (.slice (some ⟨g, 0, none⟩) n c) xs) {j : Nat} (hj : j < xs.length) : w.cell? ⟨g, j, none⟩ = some (f xs[j]) ∧ w.frozen? ⟨g, j, none⟩ = false := by
  obtain ⟨g', c', e1, _, hc⟩ := h.cell hj
  injection e1 with e1 _ _
  injection e1 with e1
  injection e1 with e1 _ _
  subst e1
  refine ⟨hc, ?_⟩
  rcases h.2 with ⟨e1, _⟩ | ⟨g', cap, cur, e1, hb, hg, _⟩
  · injection e1 with e1 _ _
    cases e1
  · injection e1 with e1 _ _
    injection e1 with e1
    injection e1 with e1 _ _
    subst e1
    exact Box.frozen (b := g) hg j
theorem owns_pos {α : Type} {w : World} {base : Nat} {e : TypeId} {f : α → Value} {v : Value} {xs : List α} (h : Owns w base e f v xs) (h0 : 0 < xs.length) : ∃ g c, v = .slice (some ⟨g, 0, none⟩) xs.length c ∧ base ≤ g ∧ xs.length ≤ c := by
  rcases h.2 with ⟨_, e⟩ | ⟨g, cap, cur, rfl, hb, _, hle, _⟩
  · omega
  · exact ⟨g, cap, rfl, hb, hle⟩
/-- a literal of blocks with one -/
theorem block_lit {w : World} {t : Int} {v : Value} {bs : List Nat} (h : CSrc w v bs) (ht : -9223372036854775808 ≤ t ∧ t ≤ 9223372036854775807) : BSrc (w.alloc (.cells #[iv t, v] 38)) (.slice (some ⟨w.heap.size, 0, none⟩) 1 1) [(t, bs)] := by
  have hb := Box.new w 38 #[iv t, v]
  refine ⟨⟨_, 1, rfl, Nat.le_refl _, fun j hj => ?_⟩, by simp, by simpa using ht⟩
  obtain rfl : j = 0 := by simpa using hj
  exact ⟨_, v, rfl, by rw [Nat.zero_mul, Addr.add_lit]; exact hb.cell 0, by rw [Nat.zero_mul, Addr.add_lit]; exact hb.cell 1, h.nix ((Only.refl _ _).alloc _)⟩
def exK (j : Nat) : List Nat := List.replicate j 255 ++ List.replicate (18 - j) 0
theorem exK_set (j : Nat) (h : j < 8) : (exK j).set j 255 = exK (j + 1) := by
  match j, h with
  | 0, _ => decide
  | 1, _ => decide
  | 2, _ => decide
  | 3, _ => decide
  | 4, _ => decide
  | 5, _ => decide
  | 6, _ => decide
  | 7, _ => decide
theorem exK_len (j : Nat) (h : j ≤ 8) : (exK j).length = 18 := by simp [exK]; omega
theorem exK_lt (j : Nat) : ∀ x ∈ exK j, x < 256 := fun x hx => by
  unfold exK at hx
  rcases List.mem_append.1 hx with h | h
  · rw [(List.mem_replicate.1 h).2]; decide
  · rw [(List.mem_replicate.1 h).2]; decide
theorem zes_snoc (j : Nat) : zes j ++ [0] = zes (j + 1) := by unfold zes; rw [List.replicate_succ']
theorem ex_wB : wE [(1, zes 2)] = 0 ∧ wB [(1, zes 2)] = [129, 0, 0, 2, 0, 0] := by decide
theorem ex_ps : psE (exK 8) = 0 ∧ psL (exK 8) = [(-1, 0, 0)] := by decide
def AwZ (W : World) (B : Nat) (s5 s6 : Value) (wr : World) : Prop := ∃ j : Nat, j ≤ 18 ∧ s6 = iv j ∧ Owns wr B 5 byt s5 (zes j) ∧ Only Nix W wr
def AwF (W : World) (B g c : Nat) (s7 : Value) (wr : World) : Prop := ∃ j : Nat, j ≤ 8 ∧ s7 = iv j ∧ Owns wr B 5 byt (.slice (some ⟨g, 0, none⟩) 18 c) (exK j) ∧ Only Nix W wr
theorem six_lit (w : World) (a b c d e f : Nat) (h : ∀ x ∈ [a, b, c, d, e, f], x < 256) : Src (w.alloc (.cells #[byt a, byt b, byt c, byt d, byt e, byt f] 5)) (.slice (some ⟨w.heap.size, 0, none⟩) 6 6) [a, b, c, d, e, f] := by
  refine Src.of_cells rfl (fun j hj => ?_) (by simp) h
  have hb := Box.new w 5 #[byt a, byt b, byt c, byt d, byt e, byt f]
  rw [Nat.zero_add, hb.cell]
  match j, hj with
  | 0, _ => rfl
  | 1, _ => rfl
  | 2, _ => rfl
  | 3, _ => rfl
  | 4, _ => rfl
  | 5, _ => rfl
theorem eq_point (u : World) : (binOp .eql 46 (.agg #[iv (-1), iv 0, iv 0]) (.agg #[iv (-1), iv 0, iv 0])).run Tryd.prog u = .ok (.bool true) u := by kernel_rfl
theorem guard_point (op : BinOp) (x y : Operand) (xs ys : Array Value) (w : World) : (eqGuard op 46 x y (.agg xs) (.agg ys)).run Tryd.prog w = .ok () w := run_eqGuard_agg w op _ x y xs ys (by kernel_rfl)
set_option maxRecDepth 100000 in
set_option maxHeartbeats 8000000 in
theorem awake_any (w : World) : Calls Tryd.prog 6 #[] w fun e w' => e = .returned (.bool true) ∧ Only Nix w w' := by
  have HZe := Lib.hid (zeros_any (w := w) 2 (by decide))
  have HE := eq_point
  have HG := guard_point
  go_enter Tryd.func6, Tryd.ntmps6
  go_wp2_with fail
  refine (HZe.out).mono ?_
  rintro e w1 ⟨v, rfl, hv, o1⟩
  obtain ⟨A1, c1, rfl, hc1⟩ := hv.form
  rw [show (zes 2).length = 2 from rfl] at hv hc1 ⊢
  have a0 := o1.alloc (.cells #[iv 0, .slice none 0 0] 38)
  have hk0 := (Only.refl Nix w1).alloc (.cells #[iv 0, .slice none 0 0] 38)
  have b0 := Box.new w1 38 #[iv 0, .slice none 0 0]
  have a2 := (a0.setCell (p := ⟨w1.heap.size, 0, none⟩) (.inr o1.size) (iv 1)).setCell (p := ⟨w1.heap.size, 1, none⟩) (.inr o1.size) (.slice A1 2 c1)
  have k2 := (hk0.setCell (p := ⟨w1.heap.size, 0, none⟩) (.inr (Nat.le_refl _)) (iv 1)).setCell (p := ⟨w1.heap.size, 1, none⟩) (.inr (Nat.le_refl _)) (.slice A1 2 c1)
  have b2 := box_two b0 (iv 1) (.slice A1 2 c1)
  have e0 := b0.cell 0
  have e1 := b0.cell 1
  have z0 := b0.frozen 0
  have z1 := b0.frozen 1
  simp only [List.getElem?_toArray, List.getElem?_cons_zero, List.getElem?_cons_succ] at e0 e1
  obtain ⟨W0, hW0⟩ : ∃ W0, w1.alloc (.cells #[iv 0, .slice none 0 0] 38) = W0 := ⟨_, rfl⟩
  rw [hW0] at a2 k2 b2 e0 e1 z0 z1
  obtain ⟨W2, hW2⟩ : ∃ W2, (W0.setCell ⟨w1.heap.size, 0, none⟩ (iv 1)).setCell ⟨w1.heap.size, 1, none⟩ (.slice A1 2 c1) = W2 := ⟨_, rfl⟩
  rw [hW2] at a2 k2 b2
  have x0 := b2.cell 0
  have x1 := b2.cell 1
  simp only [List.getElem?_toArray, List.getElem?_cons_zero, List.getElem?_cons_succ] at x0 x1
  have hL := block_lit (hv.nix k2) (t := 1) (by decide)
  have HA2 := Lib.hid a2
  have HA3 := Lib.hid (a2.alloc (.cells #[iv 1, .slice A1 2 c1] 38))
  have HWt := Lib.hid (write_any hL (by decide))
  have HW3 : Hid (∀ e w', WtR (W2.alloc (.cells #[iv 1, .slice A1 2 c1] 38)) [(1, zes 2)] e w' → ∃ A5 c5, e = .returned (.tuple #[.slice A5 6 c5, iv 0]) ∧ Src w' (.slice A5 6 c5) [129, 0, 0, 2, 0, 0] ∧ Only Nix (W2.alloc (.cells #[iv 1, .slice A1 2 c1] 38)) w') := Lib.hid (fun e w' h => by
    obtain ⟨⟨v, rfl, hown⟩, ho⟩ := h
    rw [ex_wB.2] at hown
    obtain ⟨A5, c5, rfl⟩ := hown.slice
    exact ⟨A5, c5, by rw [ex_wB.1]; rfl, hown.bytes (by decide) (by decide), ho⟩)
  clear hv o1 a0 hk0 b0 a2 k2 b2 hL
  go_wp2_with fail
  refine (HWt.out).mono ?_
  intro e w4 hw4
  obtain ⟨A5, c5, rfl, s5, o4⟩ := HW3.out e w4 hw4
  have HS5 := Lib.hid s5
  have HO4 := Lib.hid (HA3.out.trans o4)
  clear hw4 s5 o4 HWt HW3
  go_wp2
  go_loopw [5, 6] (fun s5 s6 wr => AwZ w4 w4.heap.size s5 s6 wr) (fun _ s6 _ => 18 - (intOf s6).toNat)
  case atStart => exact ⟨0, by decide, rfl, Owns.nil _ _ _ _, Only.refl _ _⟩
  case round =>
    obtain ⟨j, hj, rfl, hown, ho⟩ := hrel
    have HW := Lib.hid hown
    have HO := Lib.hid ho
    have Hsz := Lib.hid ho.size
    clear hown ho
    by_cases hlt : j < 18
    · have hlti : (j : Int) < 18 := by omega
      have HC : Hid ((wr.alloc (.cells #[.int .u8 0] 5)).cell? ⟨wr.heap.size, 0, none⟩ = some (byt 0)) := Lib.hid ((Box.new wr 5 #[.int .u8 0]).cell 0)
      have HL1 : Hid ((zes j).length ≤ 100000) := Lib.hid (by simp [zes]; omega)
      go_wp2_with (at_builtin; refine app_byte rfl (.tmp 24) (.tmp 25) rfl w4.heap.size u5 (zes j) rfl ?own1 wr.heap.size 0 rfl HC.out HL1.out ?base1 ?rest1)
      case own1 => exact HW.out.nix ((Only.refl Nix wr).alloc _)
      case base1 => have := Hsz.out; simp; omega
      case rest1 =>
        intro v1 w1' r1 g1 m1
        have HR1 : Hid (Owns w1' w4.heap.size 5 byt v1 (zes (j + 1))) := Lib.hid (by rw [← zes_snoc]; exact r1)
        have HO1 := Lib.hid ((HO.out.alloc (.cells #[.int .u8 0] 5)).grown g1 (fun k hk => .inr (HW.out.lt hk).1))
        clear r1 g1 m1
        go_wp2
        go_roundw
        case rel => exact ⟨j + 1, by omega, by go_num, HR1.out, HO1.out⟩
        case measure => simp [intOf]; omega
    · obtain rfl : j = 18 := by omega
      rw [show ((18 : Nat) : Int) = 18 from rfl]
      obtain ⟨g, c, hg, hbg, hgc⟩ := owns_pos HW.out (by decide)
      rw [show (zes 18).length = 18 from rfl] at hg hgc
      subst hg
      have HW18 : Hid (Owns wr w4.heap.size 5 byt (.slice (some ⟨g, 0, none⟩) 18 c) (exK 0)) := Lib.hid HW.out
      have HO18 := Lib.hid HO.out
      have Hbg := Lib.hid hbg
      have Hgc := Lib.hid hgc
      clear HW HO hbg hgc Hsz
      go_wp2
      go_loopw [7] (fun s7 wr => AwF w4 w4.heap.size g c s7 wr) (fun s7 _ => 8 - (intOf s7).toNat)
      case atStart => exact ⟨0, by decide, rfl, HW18.out, HO18.out⟩
      case round =>
        obtain ⟨j, hj, rfl, hown, ho⟩ := hrel
        have HW := Lib.hid hown
        have HO := Lib.hid ho
        clear hown ho
        by_cases hlt : j < 8
        · have hlti : (j : Int) < 18 := by omega
          have hlti8 : (j : Int) < 8 := by omega
          obtain ⟨hcell, hfz⟩ := HW.out.at_cell (j := j) (by rw [exK_len j hj]; omega)
          have HR1 : Hid (Owns (wr.setCell ⟨g, j, none⟩ (.int .u8 255)) w4.heap.size 5 byt (.slice (some ⟨g, 0, none⟩) 18 c) (exK (j + 1))) := Lib.hid (by rw [← exK_set j hlt]; exact HW.out.put j 255)
          have HO1 := Lib.hid (HO.out.setCell (p := ⟨g, j, none⟩) (.inr Hbg.out) (.int .u8 255))
          generalize (exK j)[j]'(by rw [exK_len j hj]; omega) = yy at *
          unfold byt at hcell
          go_wp2
          go_roundw
          case rel => exact ⟨j + 1, by omega, by go_num, HR1.out, HO1.out⟩
          case measure => simp [intOf]; omega
        · obtain rfl : j = 8 := by omega
          rw [show ((8 : Nat) : Int) = 8 from rfl]
          have HPs := Lib.hid (points_any (HW.out.bytes (by decide) (exK_lt 8)) (show (exK 8).length ≤ c from Hgc.out) (by decide))
          rw [show (exK 8).length = 18 from rfl] at HPs
          have HPr : Hid (∀ e w', PsR wr (exK 8) e w' → ∃ g6 c6, e = .returned (.tuple #[.slice (some g6) 1 c6, iv 0]) ∧ w'.cell? (g6.add 0) = some (iv (-1)) ∧ w'.cell? ⟨(g6.add 0).block, (g6.add 0).off + 1, none⟩ = some (iv 0) ∧ w'.cell? ⟨(g6.add 0).block, (g6.add 0).off + 2, none⟩ = some (iv 0) ∧ Only Nix wr w') := Lib.hid (fun e w' h => by
            obtain ⟨v, rfl, hT, ho⟩ := h
            rw [ex_ps.2] at hT
            obtain ⟨A6, c6, rfl⟩ := hT.slice
            obtain ⟨ad, rfl, h0, h1, h2⟩ := hT.at_ (k := 0) (by decide)
            exact ⟨ad, c6, by rw [ex_ps.1]; rfl, h0, h1, h2, ho⟩)
          clear HW18 HO18
          go_wp2_with fail
          refine (HPs.out).mono ?_
          intro e w6 hw6
          obtain ⟨g6, c6, rfl, y0, y1, y2, o6⟩ := HPr.out e w6 hw6
          rw [show g6.add 0 = g6 from by simp [Addr.add]] at y0 y1 y2
          have HS6 := Lib.hid (HS5.out.nix (HO.out.trans o6))
          have HO6 := Lib.hid (HO4.out.trans (HO.out.trans o6))
          have HL6 := six_lit w6 129 0 0 2 0 0 (by decide)
          unfold byt at HL6
          have HO7 := Lib.hid (HO6.out.alloc (.cells #[.int .u8 129, .int .u8 0, .int .u8 0, .int .u8 2, .int .u8 0, .int .u8 0] 5))
          have HEq := Lib.hid (equal_any _ _ _ _ [129, 0, 0, 2, 0, 0] (HS6.out.nix ((Only.refl Nix w6).alloc (.cells #[.int .u8 129, .int .u8 0, .int .u8 0, .int .u8 2, .int .u8 0, .int .u8 0] 5))) HL6)
          have k6 := (Only.refl Nix w6).alloc (.cells #[.int .u8 129, .int .u8 0, .int .u8 0, .int .u8 2, .int .u8 0, .int .u8 0] 5)
          have HK6 := Lib.hid k6
          clear hw6 o6 HL6 HPs HPr k6
          go_wp2_with fail
          refine (HEq.out).mono ?_
          rintro e w7 ⟨rfl, o7⟩
          have HO8 := Lib.hid (HO7.out.trans o7)
          have k7 := HK6.out.trans o7
          replace y0 := cell_keep k7 y0
          replace y1 := cell_keep k7 y1
          replace y2 := cell_keep k7 y2
          clear o7 k7
          go_wp2
          go_ret
          exact ⟨rfl, HO8.out⟩
end Go.Proofs.YtighdjbeddcckaaDoor
