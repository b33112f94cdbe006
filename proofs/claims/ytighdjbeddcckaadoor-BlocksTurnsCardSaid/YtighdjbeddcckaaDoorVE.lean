/-
  Write: the bytes of blocks.
-/
import Derived.Test.YtighdjbeddcckaaDoorVD0
namespace Go.Proofs.YtighdjbeddcckaaDoor
open Go.RowKit Go.Shelf

/-- a block's bytes -/
def bkB (last : Bool) (b : Bk) : List Nat := [(if last then 128 else 0) + b.1.toNat] ++ (be 3 b.2.length ++ b.2)
def gb (l : List Bk) (j : Nat) : Bk := l.getD j (0, [])
theorem gb_eq {l : List Bk} {j : Nat} (h : j < l.length) : gb l j = l[j] := by
  unfold gb
  rw [List.getD_eq_getElem?_getD, List.getElem?_eq_getElem h, Option.getD_some]
/-- the first n blocks' bytes -/
def wrN (l : List Bk) (n : Nat) : List Nat := ((List.range n).map fun j => bkB (decide (j + 1 = l.length)) (gb l j)).flatten
theorem wrN_succ (l : List Bk) (n : Nat) : wrN l (n + 1) = wrN l n ++ bkB (decide (n + 1 = l.length)) (gb l n) := by
  unfold wrN
  rw [List.range_succ, List.map_append, List.flatten_append]
  simp
def tot (l : List Bk) (n : Nat) : Nat := ((List.range n).map fun j => 4 + (gb l j).2.length).sum
theorem tot_succ (l : List Bk) (n : Nat) : tot l (n + 1) = tot l n + (4 + (gb l n).2.length) := by
  unfold tot
  rw [List.range_succ, List.map_append, List.sum_append]
  simp
theorem tot_mono (l : List Bk) (n m : Nat) (h : n ≤ m) : tot l n ≤ tot l m := by
  induction m with
  | zero => obtain rfl : n = 0 := by omega
            exact Nat.le_refl _
  | succ m ih =>
    rcases Nat.lt_or_ge m n with h1 | h1
    · obtain rfl : n = m + 1 := by omega
      exact Nat.le_refl _
    · rw [tot_succ]
      have := ih h1
      omega
theorem wrN_len (l : List Bk) (n : Nat) : (wrN l n).length = tot l n := by
  induction n with
  | zero => rfl
  | succ n ih => rw [wrN_succ, tot_succ, List.length_append, ih]; simp [bkB, be_len]; omega
def goodT (t : Int) : Prop := 0 ≤ t ∧ t < 127
instance (t : Int) : Decidable (goodT t) := by unfold goodT; infer_instance
def goodN (l : List Bk) (n : Nat) : Prop := ∀ i, i < n → goodT (gb l i).1
instance (l : List Bk) (n : Nat) : Decidable (goodN l n) := by unfold goodN; infer_instance
theorem goodN_one {l : List Bk} {n : Nat} (h : goodN l n) (h2 : goodT (gb l n).1) : goodN l (n + 1) := fun i hi => by
  rcases Nat.lt_succ_iff_lt_or_eq.1 hi with h3 | rfl
  · exact h i h3
  · exact h2
/-- which error blocks have that are not too great -/
def wE (l : List Bk) : Int := if l.length = 0 then 20 else if goodN l l.length then 0 else 13
def wB (l : List Bk) : List Nat := if wE l = 0 then wrN l l.length else []
/-- what Write answers -/
def WtR (w : World) (l : List Bk) (e : Ending) (w' : World) : Prop := (∃ v, e = .returned (.tuple #[v, iv (wE l)]) ∧ Owns w' w.heap.size 5 byt v (wB l)) ∧ Only Nix w w'
def Wt1 (w : World) (l : List Bk) (s4 s16 : Value) (wr : World) : Prop := ∃ j : Nat, j ≤ l.length ∧ s16 = iv j ∧ goodN l j ∧ s4 = iv (tot l j) ∧ Only Nix w wr
def Wt2 (w : World) (B : Nat) (l : List Bk) (s7 s43 : Value) (wr : World) : Prop := ∃ j : Nat, j ≤ l.length ∧ s43 = iv j ∧ Owns wr B 5 byt s7 (wrN l j) ∧ Only Nix w wr
theorem or128 (T : Nat) (h : T < 127) : bits .or .i64 128 (T : Int) = ((128 + T : Nat) : Int) := by
  have h1 := i64_or_nat 128 T (by decide) (by omega)
  have h2 : (128 : Nat) ||| T = 128 + T := nat_join 7 128 T (by decide) (by omega)
  rw [h2] at h1
  exact h1
theorem or0 (T : Nat) (h : T < 127) : bits .or .i64 0 (T : Int) = (T : Int) := by
  have h1 := i64_or_nat 0 T (by decide) (by omega)
  rw [Nat.zero_or] at h1
  exact h1
set_option maxRecDepth 100000 in
set_option maxHeartbeats 8000000 in
theorem write_any {w : World} {A : Option Addr} {n c : Nat} {l : List Bk} (hs : BSrc w (.slice A n c) l) (hn : tot l l.length ≤ 20000) : Calls Tryd.prog 8 #[.slice A n c] w fun e w' => WtR w l e w' := by
  have hlen := hs.len
  have HS := Lib.hid hs
  have hsm := hs.small
  subst hlen
  clear hs
  by_cases h0 : l.length = 0
  · have he : wE l = 20 := if_pos h0
    have HR : Hid (WtR w l (.returned (.tuple #[.slice none 0 0, iv 20])) w) := Lib.hid ⟨⟨_, by rw [he], by unfold wB; rw [he, if_neg (by decide)]; exact Owns.nil _ _ _ _⟩, Only.refl _ _⟩
    rw [h0]
    clear he
    go_enter Tryd.func8, Tryd.ntmps8
    go_wp2
    go_ret2
    exact HR.out
  · have hne : ¬ (l.length : Int) = 0 := by omega
    have Htm : Hid (∀ j, j ≤ l.length → tot l j ≤ 20000) := Lib.hid (fun j hj => Nat.le_trans (tot_mono l j _ hj) hn)
    have HRb : Hid (∀ j w', j < l.length → ¬ goodT (gb l j).1 → Only Nix w w' → WtR w l (.returned (.tuple #[.slice none 0 0, iv 13])) w') := Lib.hid (fun j w' hj hb ho => by
      have he : wE l = 13 := by unfold wE; rw [if_neg h0, if_neg (fun h => hb (h j hj))]
      exact ⟨⟨_, by rw [he], by unfold wB; rw [he, if_neg (by decide)]; exact Owns.nil _ _ _ _⟩, ho⟩)
    have HRg : Hid (∀ v w', goodN l l.length → Owns w' w.heap.size 5 byt v (wrN l l.length) → Only Nix w w' → WtR w l (.returned (.tuple #[v, iv 0])) w') := Lib.hid (fun v w' hg ho h => by
      have he : wE l = 0 := by unfold wE; rw [if_neg h0, if_pos hg]
      exact ⟨⟨v, by rw [he], by unfold wB; rw [he, if_pos rfl]; exact ho⟩, h⟩)
    clear hn
    go_enter Tryd.func8, Tryd.ntmps8
    go_wp2
    go_loopw [4, 16] (fun s4 s16 wr => Wt1 w l s4 s16 wr) (fun _ s16 _ => l.length - (intOf s16).toNat)
    case atStart => exact ⟨0, Nat.zero_le _, rfl, fun i hi => absurd hi (by omega), rfl, Only.refl _ _⟩
    case round =>
      obtain ⟨j, hj, rfl, hg, rfl, ho⟩ := hrel
      have HG := Lib.hid hg
      have HO := Lib.hid ho
      clear hg ho
      by_cases hlt : j < l.length
      · obtain ⟨ad, B, d, rfl, hx0, hx1, hd, hcs⟩ := (HS.out.nix HO.out).at_ hlt
        have hlti : (j : Int) < (l.length : Int) := by omega
        have HF := Lib.hid (HS.out.fits _ (List.getElem_mem hlt))
        have HT := Lib.hid (tot_succ l j)
        have HTj := Lib.hid (Htm.out (j + 1) (by omega))
        rw [← gb_eq hlt] at hx0 hx1 HF hcs
        have HG1 := Lib.hid (fun h => goodN_one HG.out (show goodT (gb l j).1 from h))
        have HRj := Lib.hid (fun w' => HRb.out j w' hlt)
        generalize gb l j = P at *
        obtain ⟨t, bs⟩ := P
        simp only at hx0 hx1 HF HT HG1 HRj
        have HO1 := Lib.hid (HO.out.alloc (.cells #[iv t, .slice B bs.length d] 38))
        obtain ⟨W4, hW4⟩ : ∃ W4, wr.alloc (.cells #[iv t, .slice B bs.length d] 38) = W4 := ⟨_, rfl⟩
        have b4 := Box.new wr 38 #[iv t, .slice B bs.length d]
        rw [hW4] at HO1 b4
        have b0 := b4.cell 0
        have b1 := b4.cell 1
        simp only [List.getElem?_toArray, List.getElem?_cons_zero, List.getElem?_cons_succ] at b0 b1
        have hbl : bs.length ≤ 20000 := by have h1 := HT.out; have h2 := HTj.out; omega
        have hbT : tot l j + 4 + bs.length ≤ 20000 := by have h1 := HT.out; have h2 := HTj.out; omega
        have HtE : Hid (tot l (j + 1) = tot l j + (4 + bs.length)) := Lib.hid HT.out
        clear b4 hcs hd HT
        by_cases g1 : t < 0
        · have HZ := Lib.hid (HRj.out W4 (fun h => by unfold goodT at h; omega) HO1.out)
          go_wp2
          go_ret2
          exact HZ.out
        · by_cases g2 : t < 127
          · have HGj := Lib.hid (HG1.out ⟨by omega, g2⟩)
            have g2i : ¬ (127 : Int) ≤ t := by omega
            generalize bs.length = L at *
            generalize tot l j = Z at *
            have hli : ¬ (16777215 : Int) < (L : Int) := by omega
            go_wp2
            go_roundw
            case rel => exact ⟨j + 1, hlt, by go_num, HGj.out, by rw [HtE.out]; go_num, HO1.out⟩
            case measure => simp [intOf]; omega
          · have HZ := Lib.hid (HRj.out W4 (fun h => by unfold goodT at h; omega) HO1.out)
            have g2i : (127 : Int) ≤ t := by omega
            go_wp2
            go_ret2
            exact HZ.out
      · obtain rfl : j = l.length := by omega
        have hlti : ¬ ((l.length : Nat) : Int) < (l.length : Int) := by omega
        have HTl := Lib.hid (Htm.out l.length (Nat.le_refl _))
        obtain ⟨N, hN⟩ : ∃ N : Nat, tot l l.length = N := ⟨_, rfl⟩
        rw [hN] at HTl
        have HNl := Lib.hid hN
        have hmk := (makes wr w.heap.size N HO.out.size (by have := HTl.out; omega)).1
        have hM3 := Lib.hid (makes wr w.heap.size N HO.out.size (by have := HTl.out; omega)).2
        have hO3 := Lib.hid (HO.out.alloc (.cells (madeCells #[.int .u8 0] N) 5))
        obtain ⟨W3, hW3⟩ : ∃ W3, wr.alloc (.cells (madeCells #[.int .u8 0] N) 5) = W3 := ⟨_, rfl⟩
        rw [hW3] at hmk hM3 hO3
        have HGf := Lib.hid HG.out
        have HOp := Lib.hid HO.out
        rw [hN]
        clear HG HO hj hN
        go_wp2
        go_loopw [7, 43] (fun s7 s43 wr => Wt2 w w.heap.size l s7 s43 wr) (fun _ s43 _ => l.length - (intOf s43).toNat)
        case atStart => exact ⟨0, Nat.zero_le _, rfl, hM3.out, hO3.out⟩
        case round =>
          obtain ⟨j, hj, rfl, hown, ho⟩ := hrel
          have HW := Lib.hid hown
          have HO := Lib.hid ho
          clear hown ho
          by_cases hlt : j < l.length
          · obtain ⟨ad, B, d, rfl, hx0, hx1, hd, hcs⟩ := HS.out.at_ hlt
            replace hx0 := cell_keep HO.out hx0
            replace hx1 := cell_keep HO.out hx1
            have hlti : (j : Int) < (l.length : Int) := by omega
            have HT := Lib.hid (tot_succ l j)
            have HTj := Lib.hid (Htm.out (j + 1) (by omega))
            have HGd := Lib.hid (HGf.out j hlt)
            have HWs := Lib.hid (wrN_succ l j)
            have HWl := Lib.hid (wrN_len l j)
            rw [← gb_eq hlt] at hx0 hx1 hcs
            generalize gb l j = P at *
            obtain ⟨t, bs⟩ := P
            simp only at hx0 hx1 HT HGd
            obtain ⟨T, rfl⟩ := Int.eq_ofNat_of_zero_le (show 0 ≤ t from HGd.out.1)
            have hT : T < 127 := by have := HGd.out.2; omega
            have HO1 := Lib.hid (HO.out.alloc (.cells #[iv T, .slice B bs.length d] 38))
            have HW1 : Hid (Owns (wr.alloc (.cells #[iv T, .slice B bs.length d] 38)) w.heap.size 5 byt u7 (wrN l j)) := Lib.hid (HW.out.nix ((Only.refl Nix wr).alloc _))
            have HD1 := Lib.hid hcs
            have HNr : Hid (¬ Row u7 wr.heap.size) := Lib.hid (fun h => by have := (HW.out.lt h).2; omega)
            have HV0 : Hid (∀ g, u7.ownBlock = some g → w.heap.size ≤ g) := Lib.hid (fun g hg => (HW.out.lt hg).1)
            have b4 := Box.new wr 38 #[iv T, .slice B bs.length d]
            obtain ⟨W4, hW4⟩ : ∃ W4, wr.alloc (.cells #[iv T, .slice B bs.length d] 38) = W4 := ⟨_, rfl⟩
            rw [hW4] at HO1 b4 HW1
            have HB4 := Lib.hid b4
            have b0 := b4.cell 0
            have b1 := b4.cell 1
            simp only [List.getElem?_toArray, List.getElem?_cons_zero, List.getElem?_cons_succ] at b0 b1
            have hsz4 : w.heap.size ≤ W4.heap.size := HO1.out.size
            have Hsz4 := Lib.hid hsz4
            have HbT : Hid (tot l j + 4 + bs.length ≤ 20000) := Lib.hid (by have h1 := HT.out; have h2 := HTj.out; omega)
            clear b4 hcs hd HT hsz4
            by_cases hl : j + 1 = l.length
            · have hli : ((j : Int) == (l.length : Int) - 1) = true := by simp; omega
              obtain ⟨Y, hY⟩ : ∃ Y, 128 + T = Y := ⟨_, rfl⟩
              have HY := Lib.hid hY
              have hor := or128 T hT
              rw [hY] at hor
              have hor2 : bits .or .i64 128 (T : Int) % 256 = (Y : Int) := by rw [hor]; omega
              have hdec : decide (j + 1 = l.length) = true := decide_eq_true hl
              have HBk : Hid (bkB (decide (j + 1 = l.length)) ((T : Int), bs) = [Y] ++ (be 3 bs.length ++ bs)) := Lib.hid (by rw [hdec]; unfold bkB; simp [HY.out])
              have HC : Hid ((W4.alloc (.cells #[.int .u8 ((Y : Nat) : Int)] 5)).cell? ⟨W4.heap.size, 0, none⟩ = some (byt (Y))) := Lib.hid ((Box.new W4 5 #[.int .u8 ((Y : Nat) : Int)]).cell 0)
              have HL1 : Hid ((wrN l j).length ≤ 100000) := Lib.hid (by rw [HWl.out]; have := HbT.out; omega)
              clear hdec hY
              go_wp2_with (at_builtin; refine app_byte rfl (.tmp 53) (.tmp 59) rfl w.heap.size u7 (wrN l j) rfl ?own1 W4.heap.size (Y) rfl HC.out HL1.out ?base1 ?rest1)
              case own1 => exact HW1.out.nix ((Only.refl Nix W4).alloc _)
              case base1 => have := Hsz4.out; simp; omega
              case rest1 =>
                intro v1 w1 r1 g1 m1
                obtain ⟨k1, n1⟩ := grow_row (v := u7) (w := W4) (Only.refl _ _) (.inl rfl) g1 m1
                have HO2 := Lib.hid (row_nix HO1.out k1 HV0.out)
                have hB2 := HB4.out.only k1 HNr.out
                have HB2 := Lib.hid hB2
                have HV1 := Lib.hid (n1.from_ Hsz4.out HV0.out)
                have HN1 : Hid (¬ Row v1 wr.heap.size) := Lib.hid (fun h => by
                  rcases n1 with m | m
                  · exact HNr.out (m.symm.trans h)
                  · have := m _ h
                    have h2 := HB4.out.lt
                    omega)
                have c1 := hB2.cell 1
                simp only [List.getElem?_toArray, List.getElem?_cons_zero, List.getElem?_cons_succ] at c1
                have HP := Lib.hid (put_any 3 bs.length r1 HO2.out.size (by decide) (by have := HbT.out; omega) (by have := HL1.out; have := HbT.out; have := HWl.out; simp only [List.length_append, List.length_singleton]; omega))
                have hbl : bs.length ≤ 20000 := by have := HbT.out; omega
                clear r1 g1 m1 k1 n1 hB2 b0 b1
                go_wp2_with fail
                refine (HP.out).mono ?_
                rintro e y1 ⟨v2, rfl, r2, k2, n2⟩
                have HO3 := Lib.hid (row_nix HO2.out k2 HV1.out)
                have hB3 := HB2.out.only k2 HN1.out
                have d1 := hB3.cell 1
                simp only [List.getElem?_toArray, List.getElem?_cons_zero, List.getElem?_cons_succ] at d1
                have HR2 := Lib.hid r2
                have HD3 := Lib.hid ((HD1.out.nix HO3.out).src)
                have HL3 : Hid ((wrN l j ++ [Y] ++ be 3 bs.length).length + bs.length ≤ 1000000) := Lib.hid (by have := HbT.out; have := HWl.out; simp only [List.length_append, List.length_singleton, be_len]; omega)
                have HV2 : Hid (∀ g, v2.ownBlock = some g → w.heap.size ≤ g) := Lib.hid (fun g hg => (HR2.out.lt hg).1)
                clear r2 k2 n2 hB3 c1 HP hor hor2
                go_wp2_with (at_builtin; refine wpList_append_bytes rfl (.tmp 67) (.tmp 69) rfl w.heap.size v2 _ _ rfl HR2.out B bs.length d bs rfl HD3.out HL3.out HO3.out.size ?rest2)
                case rest2 =>
                  intro v3 w3 r3 g3 m3
                  have HO4 := Lib.hid (HO3.out.grown g3 (fun k hk => .inr (HV2.out k hk)))
                  have HR4 : Hid (Owns w3 w.heap.size 5 byt v3 (wrN l (j + 1))) := Lib.hid (by
                    rw [HWs.out, HBk.out]
                    unfold Owns
                    have h4 : (wrN l j ++ ([Y] ++ (be 3 bs.length ++ bs))) = (wrN l j ++ [Y] ++ be 3 bs.length) ++ bs := by simp
                    rw [h4, List.length_append, List.map_append]
                    simpa using r3)
                  clear r3 g3 m3
                  go_wp2
                  go_roundw
                  case rel => exact ⟨j + 1, hlt, by go_num, HR4.out, HO4.out⟩
                  case measure => simp [intOf]; omega
            · have hli : ((j : Int) == (l.length : Int) - 1) = false := by simp; omega
              have hor := or0 T hT
              have hor2 : bits .or .i64 0 (T : Int) % 256 = (T : Int) := by rw [hor]; omega
              have hdec : decide (j + 1 = l.length) = false := decide_eq_false hl
              have HBk : Hid (bkB (decide (j + 1 = l.length)) ((T : Int), bs) = [T] ++ (be 3 bs.length ++ bs)) := Lib.hid (by rw [hdec]; unfold bkB; simp )
              have HC : Hid ((W4.alloc (.cells #[.int .u8 ((T : Nat) : Int)] 5)).cell? ⟨W4.heap.size, 0, none⟩ = some (byt (T))) := Lib.hid ((Box.new W4 5 #[.int .u8 ((T : Nat) : Int)]).cell 0)
              have HL1 : Hid ((wrN l j).length ≤ 100000) := Lib.hid (by rw [HWl.out]; have := HbT.out; omega)
              clear hdec
              go_wp2_with (at_builtin; refine app_byte rfl (.tmp 53) (.tmp 59) rfl w.heap.size u7 (wrN l j) rfl ?own1 W4.heap.size (T) rfl HC.out HL1.out ?base1 ?rest1)
              case own1 => exact HW1.out.nix ((Only.refl Nix W4).alloc _)
              case base1 => have := Hsz4.out; simp; omega
              case rest1 =>
                intro v1 w1 r1 g1 m1
                obtain ⟨k1, n1⟩ := grow_row (v := u7) (w := W4) (Only.refl _ _) (.inl rfl) g1 m1
                have HO2 := Lib.hid (row_nix HO1.out k1 HV0.out)
                have hB2 := HB4.out.only k1 HNr.out
                have HB2 := Lib.hid hB2
                have HV1 := Lib.hid (n1.from_ Hsz4.out HV0.out)
                have HN1 : Hid (¬ Row v1 wr.heap.size) := Lib.hid (fun h => by
                  rcases n1 with m | m
                  · exact HNr.out (m.symm.trans h)
                  · have := m _ h
                    have h2 := HB4.out.lt
                    omega)
                have c1 := hB2.cell 1
                simp only [List.getElem?_toArray, List.getElem?_cons_zero, List.getElem?_cons_succ] at c1
                have HP := Lib.hid (put_any 3 bs.length r1 HO2.out.size (by decide) (by have := HbT.out; omega) (by have := HL1.out; have := HbT.out; have := HWl.out; simp only [List.length_append, List.length_singleton]; omega))
                have hbl : bs.length ≤ 20000 := by have := HbT.out; omega
                clear r1 g1 m1 k1 n1 hB2 b0 b1
                go_wp2_with fail
                refine (HP.out).mono ?_
                rintro e y1 ⟨v2, rfl, r2, k2, n2⟩
                have HO3 := Lib.hid (row_nix HO2.out k2 HV1.out)
                have hB3 := HB2.out.only k2 HN1.out
                have d1 := hB3.cell 1
                simp only [List.getElem?_toArray, List.getElem?_cons_zero, List.getElem?_cons_succ] at d1
                have HR2 := Lib.hid r2
                have HD3 := Lib.hid ((HD1.out.nix HO3.out).src)
                have HL3 : Hid ((wrN l j ++ [T] ++ be 3 bs.length).length + bs.length ≤ 1000000) := Lib.hid (by have := HbT.out; have := HWl.out; simp only [List.length_append, List.length_singleton, be_len]; omega)
                have HV2 : Hid (∀ g, v2.ownBlock = some g → w.heap.size ≤ g) := Lib.hid (fun g hg => (HR2.out.lt hg).1)
                clear r2 k2 n2 hB3 c1 HP hor hor2
                go_wp2_with (at_builtin; refine wpList_append_bytes rfl (.tmp 67) (.tmp 69) rfl w.heap.size v2 _ _ rfl HR2.out B bs.length d bs rfl HD3.out HL3.out HO3.out.size ?rest2)
                case rest2 =>
                  intro v3 w3 r3 g3 m3
                  have HO4 := Lib.hid (HO3.out.grown g3 (fun k hk => .inr (HV2.out k hk)))
                  have HR4 : Hid (Owns w3 w.heap.size 5 byt v3 (wrN l (j + 1))) := Lib.hid (by
                    rw [HWs.out, HBk.out]
                    unfold Owns
                    have h4 : (wrN l j ++ ([T] ++ (be 3 bs.length ++ bs))) = (wrN l j ++ [T] ++ be 3 bs.length) ++ bs := by simp
                    rw [h4, List.length_append, List.map_append]
                    simpa using r3)
                  clear r3 g3 m3
                  go_wp2
                  go_roundw
                  case rel => exact ⟨j + 1, hlt, by go_num, HR4.out, HO4.out⟩
                  case measure => simp [intOf]; omega
          · obtain rfl : j = l.length := by omega
            have hlti2 : ¬ ((l.length : Nat) : Int) < (l.length : Int) := by omega
            have HZ := Lib.hid (HRg.out _ _ HGf.out HW.out HO.out)
            go_wp2
            go_ret2
            exact HZ.out
end Go.Proofs.YtighdjbeddcckaaDoor
