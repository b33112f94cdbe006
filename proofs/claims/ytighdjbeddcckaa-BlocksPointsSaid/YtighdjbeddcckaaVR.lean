/-
  The block with which bytes begin.
-/
import Derived.Test.YtighdjbeddcckaaVJ
namespace Go.Proofs.Ytighdjbeddcckaa
open Go.RowKit Go.Shelf

/-- where a piece of a slice lies -/
def cutA (A : Option Addr) (c i : Nat) : Option Addr := if c = i then A else A.map (·.add i)
theorem elem_byte : Try.prog.elem 22 = 5 := by simp [Program.elem, Try.underlying22]
theorem size_byte (u : World) : (sizeOf 5).run Try.prog u = .ok 1 u := by kernel_rfl
theorem slice_from (A : Option Addr) (n c s : Nat) (hs : s ≤ n) (u : World) : (Instr.slice 22 (.slice A n c) (some (.int .i64 (s : Int))) none none).run Try.prog u = .ok (.slice (cutA A c s) (n - s) (c - s)) u := by
  rw [run_slice_l u 22 A n c (by rw [elem_byte]; exact Try.underlying22) .i64 s (by omega) (by omega), elem_byte, size_byte]
  simp [Result.andThen, sliced, cutA]
theorem slice_win (A : Option Addr) (n c i h : Nat) (hi : i ≤ h) (hh : h ≤ c) (u : World) : (Instr.slice 22 (.slice A n c) (some (.int .i64 (i : Int))) (some (.int .i64 (h : Int))) none).run Try.prog u = .ok (.slice (cutA A c i) (h - i) (c - i)) u := by
  rw [run_slice_lh u 22 A n c (by rw [elem_byte]; exact Try.underlying22) .i64 .i64 i h (by omega) (by omega) (by omega), elem_byte, size_byte]
  simp [Result.andThen, sliced, cutA]
theorem csrc_win {w : World} {A : Option Addr} {n c : Nat} {bs : List Nat} (h : CSrc w (.slice A n c) bs) (i m : Nat) (him : i + m ≤ n) : CSrc w (.slice (cutA A c i) m (c - i)) ((bs.drop i).take m) := by
  have hn := h.src.len
  have hc := h.cap _ _ _ rfl
  have hl : ((bs.drop i).take m).length = m := by rw [List.length_take, List.length_drop]; omega
  refine ⟨⟨⟨cutA A c i, c - i, by rw [hl], fun j hj => ?_⟩, by have := h.src.small; omega, fun x hx => h.src.lt x (List.mem_of_mem_drop (List.mem_of_mem_take hx))⟩, fun _ _ _ e => by injection e with _ e2 e3; omega⟩
  rw [hl] at hj
  obtain ⟨ad, rfl, hx⟩ := h.src.at_ (k := i + j) (by omega)
  have hci : ¬ c = i := by omega
  refine ⟨ad.add i, by unfold cutA; rw [if_neg hci]; rfl, ?_⟩
  rw [add_add, hx, List.getElem_take, List.getElem_drop]
theorem csrc_from {w : World} {A : Option Addr} {n c : Nat} {bs : List Nat} (h : CSrc w (.slice A n c) bs) (s : Nat) (hs : s ≤ n) : CSrc w (.slice (cutA A c s) (n - s) (c - s)) (bs.drop s) := by
  have hn := h.src.len
  have h2 := csrc_win h s (n - s) (by omega)
  rwa [List.take_of_length_le (by rw [List.length_drop]; omega)] at h2
/-- how many bytes of Data are told -/
def szK (bs : List Nat) : Nat := vl ((bs.drop 1).take 3)
def tyK (bs : List Nat) : Nat := bs.getD 0 0 % 128
def fsE (bs : List Nat) : Int := if bs.length < 4 then 11 else if bs.length - 4 < szK bs then 11 else if tyK bs = 127 then 13 else 0
def fsK (bs : List Nat) : Bk := ((tyK bs : Nat), (bs.drop 4).take (szK bs))
theorem szK_lt (bs : List Nat) (hb : ∀ x ∈ bs, x < 256) : szK bs < 16777216 := by
  have := vl_lt ((bs.drop 1).take 3) (fun x hx => hb x (List.mem_of_mem_drop (List.mem_of_mem_take hx)))
  refine Nat.lt_of_lt_of_le this ?_
  rw [show (16777216 : Nat) = 2 ^ 24 by decide]
  exact Nat.pow_le_pow_right (by decide) (by rw [List.length_take]; omega)
theorem andNot128 (x : Nat) (h : x < 256) : bits .andNot .u8 (x : Int) 128 = ((x % 128 : Nat) : Int) := by
  have key : ∀ x : Fin 256, bits .andNot .u8 ((x.val : Nat) : Int) 128 = ((x.val % 128 : Nat) : Int) := by decide +kernel
  exact key ⟨x, h⟩
/-- what first answers: the data lie where the bytes lie -/
def FsR (w : World) (A : Option Addr) (c : Nat) (bs : List Nat) (e : Ending) (w' : World) : Prop :=
  (if fsE bs = 0 then e = .returned (.tuple #[.agg #[iv (tyK bs : Nat), .slice (cutA A c 4) (szK bs) (c - 4)], iv 0]) else e = .returned (.tuple #[.agg #[iv 0, .slice none 0 0], iv (fsE bs)])) ∧ Only Nix w w'
set_option maxRecDepth 100000 in
set_option maxHeartbeats 8000000 in
theorem first_any {w : World} {A : Option Addr} {n c : Nat} {bs : List Nat} (hs : CSrc w (.slice A n c) bs) : Calls Try.prog 27 #[.slice A n c] w fun e w' => FsR w A c bs e w' := by
  have hlen := hs.src.len
  have hsm := hs.src.small
  have hcap := hs.cap _ _ _ rfl
  subst hlen
  have HS := Lib.hid hs
  have a1 := (Only.refl Nix w).alloc (.cells #[iv 0, .slice none 0 0] 59)
  have b1 := Box.new w 59 #[iv 0, .slice none 0 0]
  obtain ⟨W1, hW1⟩ : ∃ W1, w.alloc (.cells #[iv 0, .slice none 0 0] 59) = W1 := ⟨_, rfl⟩
  rw [hW1] at a1 b1
  have c0 := b1.cell 0
  have c1 := b1.cell 1
  have z0 := b1.frozen 0
  have z1 := b1.frozen 1
  simp only [List.getElem?_toArray, List.getElem?_cons_zero, List.getElem?_cons_succ] at c0 c1
  have HA1 := Lib.hid a1
  have hBF : Hid (∀ x y, Box ((W1.setCell ⟨w.heap.size, 0, none⟩ x).setCell ⟨w.heap.size, 1, none⟩ y) w.heap.size 59 #[x, y]) := Lib.hid (fun x y => box_two b1 x y)
  have hFO : Hid (∀ x y, Only Nix w ((W1.setCell ⟨w.heap.size, 0, none⟩ x).setCell ⟨w.heap.size, 1, none⟩ y)) := Lib.hid (fun x y => (a1.setCell (p := ⟨w.heap.size, 0, none⟩) (.inr (Nat.le_refl _)) x).setCell (p := ⟨w.heap.size, 1, none⟩) (.inr (Nat.le_refl _)) y)
  clear a1 b1 hs
  by_cases h4 : bs.length < 4
  · have he : fsE bs = 11 := if_pos h4
    have h4i : (bs.length : Int) < 4 := by omega
    have HR : Hid (FsR w A c bs (.returned (.tuple #[.agg #[iv 0, .slice none 0 0], iv 11])) ((W1.setCell ⟨w.heap.size, 0, none⟩ (iv 0)).setCell ⟨w.heap.size, 1, none⟩ (.slice none 0 0))) := Lib.hid ⟨by rw [he, if_neg (by decide)], hFO.out _ _⟩
    clear he
    go_enter Try.func27, Try.ntmps27
    go_wp2
    refine bodyPost_ret (v := .tuple #[.agg #[iv 0, .slice none 0 0], iv 11]) (results_block rfl _ _ w.heap.size _ _ _ rfl (hBF.out _ _) rfl) rfl ?_
    exact HR.out
  have h4i : ¬ (bs.length : Int) < 4 := by omega
  have HSW := HS.out.nix HA1.out
  obtain ⟨ad, rfl, hx0⟩ := HSW.src.at_ (k := 0) (by omega)
  have hx0e : ad.add 0 = ad := by simp [Addr.add]
  rw [hx0e] at hx0
  have hx256 := HSW.src.lt _ (List.getElem_mem (show 0 < bs.length by omega))
  have h0d : bs.getD 0 0 = bs[0] := by rw [List.getD_eq_getElem?_getD, List.getElem?_eq_getElem (by omega), Option.getD_some]
  have HNm := Lib.hid (number_any (csrc_win HSW 1 3 (by omega)).src (by rw [List.length_take]; omega))
  have hsw := slice_win (some ad) bs.length c 1 4 (by decide) (by omega)
  have hszv : vl ((bs.drop 1).take 3) = szK bs := rfl
  have hsz := szK_lt bs HSW.src.lt
  have HtK : Hid (tyK bs = bs[0] % 128) := Lib.hid (by unfold tyK; rw [h0d])
  have hsw2 : ∀ S : Nat, S ≤ bs.length - 4 → ∀ u, (Instr.slice 22 (.slice (some ad) bs.length c) (some (.int .i64 4)) (some (.int .i64 (4 + (S : Int)))) none).run Try.prog u = .ok (.slice (cutA (some ad) c 4) S (c - 4)) u := fun S hS u => by
    have := slice_win (some ad) bs.length c 4 (4 + S) (by omega) (by omega) u
    rw [show 4 + S - 4 = S by omega] at this
    rw [show ((4 + S : Nat) : Int) = 4 + (S : Int) by omega] at this
    exact this
  rw [hszv] at HNm
  have HFs : Hid (fsE bs = if bs.length - 4 < szK bs then 11 else if tyK bs = 127 then 13 else 0) := Lib.hid (by unfold fsE; rw [if_neg h4])
  have HFR : Hid (∀ e w', (if fsE bs = 0 then e = .returned (.tuple #[.agg #[iv (tyK bs : Nat), .slice (cutA (some ad) c 4) (szK bs) (c - 4)], iv 0]) else e = .returned (.tuple #[.agg #[iv 0, .slice none 0 0], iv (fsE bs)])) → Only Nix w w' → FsR w (some ad) c bs e w') := Lib.hid (fun e w' h ho => ⟨h, ho⟩)
  rw [show (4 - 1 : Nat) = 3 from rfl] at hsw
  rw [show ((1 : Nat) : Int) = 1 from rfl, show ((4 : Nat) : Int) = 4 from rfl] at hsw
  generalize bs[0] = x at *
  generalize szK bs = S at *
  generalize tyK bs = T at *
  generalize fsE bs = E at *
  obtain ⟨c1', hc1⟩ : ∃ z, c - 1 = z := ⟨_, rfl⟩
  obtain ⟨A1, hA1⟩ : ∃ z, cutA (some ad) c 1 = z := ⟨_, rfl⟩
  rw [hc1, hA1] at HNm
  rw [hc1, hA1] at hsw
  have hSi : IntKind.i64.wrap (S : Int) = (S : Int) := wraps_i64 _ (by omega) (by omega)
  have hn4 : (bs.length : Int) - 4 = ((bs.length - 4 : Nat) : Int) := by omega
  have han := andNot128 x hx256
  clear h0d hx0e hszv hc1 hA1 HSW
  by_cases g1 : bs.length - 4 < S
  · have he : E = 11 := by rw [HFs.out, if_pos g1]
    subst he
    have g1i : ((bs.length - 4 : Nat) : Int) < (S : Int) := by omega
    have HR := Lib.hid (HFR.out (.returned (.tuple #[.agg #[iv 0, .slice none 0 0], iv 11])) ((W1.setCell ⟨w.heap.size, 0, none⟩ (iv 0)).setCell ⟨w.heap.size, 1, none⟩ (.slice none 0 0)) (by rw [if_neg (by decide)]) (hFO.out _ _))
    clear hsw2 HFR HFs
    go_enter Try.func27, Try.ntmps27
    go_wp2_with fail
    refine (HNm.out).mono ?_
    rintro e w2 ⟨rfl, rfl⟩
    go_wp2
    refine bodyPost_ret (v := .tuple #[.agg #[iv 0, .slice none 0 0], iv 11]) (results_block rfl _ _ w.heap.size _ _ _ rfl (hBF.out _ _) rfl) rfl ?_
    exact HR.out
  have g1i : ¬ ((bs.length - 4 : Nat) : Int) < (S : Int) := by omega
  unfold byt at hx0
  have HTx := HtK.out
  by_cases g2 : T = 127
  · have he : E = 13 := by rw [HFs.out, if_neg g1, if_pos g2]
    subst he
    have g2i : ((x % 128 : Nat) : Int) = 127 := by omega
    have HR := Lib.hid (HFR.out (.returned (.tuple #[.agg #[iv 0, .slice none 0 0], iv 13])) ((W1.setCell ⟨w.heap.size, 0, none⟩ (iv 0)).setCell ⟨w.heap.size, 1, none⟩ (.slice none 0 0)) (by rw [if_neg (by decide)]) (hFO.out _ _))
    rw [g2i] at han
    clear hsw2 HFR HFs HTx g2
    go_enter Try.func27, Try.ntmps27
    go_wp2_with fail
    refine (HNm.out).mono ?_
    rintro e w2 ⟨rfl, rfl⟩
    go_wp2
    refine bodyPost_ret (v := .tuple #[.agg #[iv 0, .slice none 0 0], iv 13]) (results_block rfl _ _ w.heap.size _ _ _ rfl (hBF.out _ _) rfl) rfl ?_
    exact HR.out
  · have he : E = 0 := by rw [HFs.out, if_neg g1, if_neg g2]
    subst he
    have HR := Lib.hid (HFR.out (.returned (.tuple #[.agg #[iv (T : Nat), .slice (cutA (some ad) c 4) S (c - 4)], iv 0])) ((W1.setCell ⟨w.heap.size, 0, none⟩ (iv (T : Nat))).setCell ⟨w.heap.size, 1, none⟩ (.slice (cutA (some ad) c 4) S (c - 4))) (by rw [if_pos rfl]) (hFO.out _ _))
    rw [← HTx] at han
    have hT : T < 128 := by omega
    have g2i : ¬ (T : Int) = 127 := by omega
    have g2j : ((T : Int) == 127) = false := by simpa using g2i
    have hs3 := hsw2 S (by omega)
    obtain ⟨A4, hA4⟩ : ∃ z, cutA (some ad) c 4 = z := ⟨_, rfl⟩
    obtain ⟨c4, hc4⟩ : ∃ z, c - 4 = z := ⟨_, rfl⟩
    rw [hA4, hc4] at hs3 HR
    clear hsw2 HFR HFs HTx hA4 hc4
    go_enter Try.func27, Try.ntmps27
    go_wp2_with fail
    refine (HNm.out).mono ?_
    rintro e w2 ⟨rfl, rfl⟩
    go_wp2
    refine bodyPost_ret (v := .tuple #[.agg #[iv (T : Nat), .slice A4 S c4], iv 0]) (results_block rfl _ _ w.heap.size _ _ _ rfl (hBF.out _ _) rfl) rfl ?_
    exact HR.out
end Go.Proofs.Ytighdjbeddcckaa
