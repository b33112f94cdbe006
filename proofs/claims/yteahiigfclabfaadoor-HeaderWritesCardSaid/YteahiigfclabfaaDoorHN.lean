/-
  The header that is made of what a header tells has no more bytes: the walk.
-/
import Derived.Test.YteahiigfclabfaaDoorHM
namespace Go.Proofs.YteahiigfclabfaaDoor.H
open Go.RowKit

theorem szC (h : Hd) : (Tryd.prog.info? 23).map (·.size) = some (hc h).size := Tryd.size_header
set_option maxRecDepth 100000 in
set_option maxHeartbeats 8000000 in
theorem short_walk {w : World} (hL : LaidH w) (h : Hd) (hi : HdI h) :
    Calls Tryd.prog 7 #[hv h] w fun x w' => x = .returned (.bool true) ∧ Only Nix w w' := by
  have HWk : Hid (∀ u, LaidH u → Calls Tryd.prog 10 #[.agg (hc h)] u fun x w' => ∃ A c, x = .returned (.tuple #[.slice A (wrB h).length c, iv (ckE h)]) ∧ (wrB h).length ≤ c ∧ U.Src w' (.slice A (wrB h).length c) (wrB h) ∧ Only Nix u w') := Lib.hid (fun u hu => write_any hu h hi)
  have HCn : Hid (∀ u, LaidH u → Calls Tryd.prog 18 #[iv h.mo] u fun x w' => x = .returned (.tuple #[iv (chN h.mo), iv (chE h.mo)]) ∧ u = w') := Lib.hid (fun u hu => channels_any hu h.mo)
  have HAw : Hid (∀ u, LaidH u → Calls Tryd.prog 12 #[] u fun e w' => e = .returned (.bool true) ∧ Only Nix u w') := Lib.hid (fun u hu => awake_any hu)
  have HK : Hid (ckE h = 0 → HOk h) := Lib.hid (ck_ok h).1
  have HL1 := Lib.hid (hL.nix ((Only.refl Nix w).alloc (.cells (hc h) 23)))
  have HO1 := Lib.hid ((Only.refl Nix w).alloc (.cells (hc h) 23))
  have HB1 := Lib.hid (Box.new w 23 (hc h))
  have HZ := Lib.hid (szC h)
  generalize hW1 : w.alloc (.cells (hc h) 23) = W1 at *
  have hx : hv h = .agg (hc h) := rfl
  clear hL
  go_enter Tryd.func7, Tryd.ntmps7
  rw [hx]
  obtain ⟨C, hC⟩ : ∃ C, hc h = C := ⟨_, rfl⟩
  rw [hC] at hW1 HB1 hx HWk HZ ⊢
  go_wp2_with (refine wpList_load_row rfl 23 (.tmp 1) rfl w.heap.size rfl 23 C (0, 0) _ HB1.out Tryd.underlying23 rfl HZ.out ?_)
  refine (HWk.out W1 HL1.out).mono ?_
  rintro _ w2 ⟨A, c, rfl, hcap, hsrc, ho2⟩
  have HB2 := Lib.hid (HB1.out.only ho2 (fun e => e))
  have HL2 := Lib.hid (HL1.out.nix ho2)
  have HO2 := Lib.hid (HO1.out.trans ho2)
  clear ho2 hsrc hcap
  have hq := HB2.out
  rw [← hC] at hq
  have q0 : w2.cell? ⟨w.heap.size, 0, none⟩ = some (.bool h.v) := hq.cell 0
  have q3 : w2.cell? ⟨w.heap.size, 3, none⟩ = some (iv h.mo) := hq.cell 3
  have q5 : w2.cell? ⟨w.heap.size, 5, none⟩ = some (iv h.num) := hq.cell 5
  have q6 : w2.cell? ⟨w.heap.size, 6, none⟩ = some (iv h.blk) := hq.cell 6
  have q7 : w2.cell? ⟨w.heap.size, 7, none⟩ = some (iv h.rate) := hq.cell 7
  have q8 : w2.cell? ⟨w.heap.size, 8, none⟩ = some (iv h.dep) := hq.cell 8
  have HCL := Lib.hid (HCn.out w2 HL2.out)
  have HWn : Hid (ckE h ≠ 0 → wrB h = []) := Lib.hid (fun e => by unfold wrB; rw [if_neg e])
  have hlt : w.heap.size < w2.heap.size := hq.lt
  have hne : ¬ (w.heap.size = w2.heap.size) := by omega
  clear hq HCn
  by_cases hE : ckE h = 0
  · have k := HK.out hE
    have hce : chE h.mo = 0 := (chE_zero _).2 k.mo
    rw [hE]
    rw [hce] at HCL
    have hsh := short_ok k hi
    have HSH := Lib.hid hsh
    have HLn := Lib.hid (short_len k hsh)
    have HMk : Hid (∀ u, LaidH u → Calls Tryd.prog 16 #[.bool h.v, iv h.num, iv h.blk, iv h.mo, .agg #[iv h.rate, iv (chN h.mo), iv (depP h.dep)]] u fun x w' => x = .returned (.tuple #[hv (mkH h.v h.num h.blk h.mo h.rate (depP h.dep)), iv 0]) ∧ Only Nix u w') := Lib.hid (fun u hu => by
      have hd9 : I64 (depP h.dep) := by
        have := hi.dep
        unfold depP; split
        · constructor <;> omega
        · exact this
      have := make_any hu h.v h.num h.blk h.mo h.rate (chN h.mo) (depP h.dep) hi.blk hi.rate hd9
      rw [show mkA h.v h.num h.blk h.mo h.rate (chN h.mo) (depP h.dep) = mkH h.v h.num h.blk h.mo h.rate (depP h.dep) from if_pos (short_mkE k), short_mkE k] at this
      exact this)
    have hdp : Hid (depP h.dep = if h.dep = 0 then 9 else h.dep) := Lib.hid rfl
    generalize depP h.dep = D at *
    generalize mkH h.v h.num h.blk h.mo h.rate D = x at *
    have HWx : Hid (∀ u, LaidH u → Calls Tryd.prog 10 #[hv x] u fun y w' => ∃ A c, y = .returned (.tuple #[.slice A (wrB x).length c, iv 0]) ∧ (wrB x).length ≤ c ∧ U.Src w' (.slice A (wrB x).length c) (wrB x) ∧ Only Nix u w') := Lib.hid (fun u hu => by
      have := write_any hu x hsh.int
      rw [(ck_ok x).2 hsh.ok] at this
      exact this)
    have e1 := hsh.blk
    have e2 := hsh.rate
    have e3 := hsh.dep
    have e4 := hsh.num
    obtain ⟨V, bc, rc, mo, dc, num, blk, rate, dep⟩ := h
    obtain ⟨V2, bc2, rc2, mo2, dc2, num2, blk2, rate2, dep2⟩ := x
    simp only at e1 e2 e3 e4 HMk hdp q0 q3 q5 q6 q7 q8 HCL ⊢
    subst e1 e2 e3 e4
    have hll := HLn.out
    generalize (wrB ⟨V, bc, rc, mo, dc, num2, blk2, rate2, dep2⟩).length = n1 at *
    generalize (wrB ⟨V2, bc2, rc2, mo2, dc2, num2, blk2, rate2, dep2⟩).length = n2 at *
    generalize chN mo = N0 at *
    clear hsh HSH HWk HK HWn hce k hE
    go_wp2_with fail
    refine (HCL.out).mono ?_
    rintro _ _ ⟨rfl, rfl⟩
    by_cases hd : dep2 = 0
    · subst hd
      have hD : D = 9 := by rw [hdp.out, if_pos rfl]
      subst hD
      go_wp2_with fail
      refine (HMk.out _ (HL2.out.nix ((Only.refl _ _).alloc _))).mono ?_
      rintro _ w4 ⟨rfl, ho4⟩
      have ho24 := ((Only.refl Nix w2).alloc (.cells #[iv rate2, iv N0, iv 9] 42)).trans ho4
      have HX := Lib.hid (Box.new w4 23 (hc ⟨V2, bc2, rc2, mo2, dc2, num2, blk2, rate2, 0⟩))
      have ho25 := ho24.alloc (.cells (hc ⟨V2, bc2, rc2, mo2, dc2, num2, blk2, rate2, 0⟩) 23)
      have HL5 := Lib.hid (HL2.out.nix ho25)
      have HO25 := Lib.hid ho25
      have hlt4 : w2.heap.size ≤ w4.heap.size := ho24.size
      clear ho24 ho25 ho4
      have HWX := Lib.hid (HWx.out _ HL5.out)
      simp only [hv, hc] at HWX HX HL5 HO25 ⊢
      go_wp2_with (refine wpList_load_row rfl 23 (.tmp 8) rfl w4.heap.size rfl 23 _ (0, 0) _ HX.out Tryd.underlying23 rfl Tryd.size_header ?_)
      refine (HWX.out).mono ?_
      rintro _ w5 ⟨A2, c2, rfl, _, _, ho5⟩
      have o25 := HO25.out.trans ho5
      have r5 := U.cell_keep o25 q5
      have r6 := U.cell_keep o25 q6
      have r7 := U.cell_keep o25 q7
      have r8 := U.cell_keep o25 q8
      have hX5 := HX.out.only ho5 (fun e => e)
      have s5 : w5.cell? ⟨w4.heap.size, 5, none⟩ = some (iv num2) := hX5.cell 5
      have s6 : w5.cell? ⟨w4.heap.size, 6, none⟩ = some (iv blk2) := hX5.cell 6
      have s7 : w5.cell? ⟨w4.heap.size, 7, none⟩ = some (iv rate2) := hX5.cell 7
      have s8 : w5.cell? ⟨w4.heap.size, 8, none⟩ = some (iv 0) := hX5.cell 8
      have HA5 := Lib.hid (HAw.out w5 (HL5.out.nix ho5))
      have HO5 := Lib.hid (HO2.out.trans o25)
      have g1 : (n2 : Int) ≤ n1 := by omega
      have g2 : (6 : Int) ≤ n2 := by omega
      clear o25 ho5 hX5 HLn q0 q3 q5 q6 q7 q8
      go_wp2_with fail
      refine (HA5.out).mono ?_
      rintro _ w6 ⟨rfl, ho6⟩
      have HO6 := Lib.hid (HO5.out.trans ho6)
      clear ho6
      go_wp2
      go_ret
      exact ⟨rfl, HO6.out⟩
    · have hD : D = dep2 := by rw [hdp.out, if_neg hd]
      subst hD
      go_wp2_with fail
      refine (HMk.out _ (HL2.out.nix ((Only.refl _ _).alloc _))).mono ?_
      rintro _ w4 ⟨rfl, ho4⟩
      have ho24 := ((Only.refl Nix w2).alloc (.cells #[iv rate2, iv N0, iv D] 42)).trans ho4
      have HX := Lib.hid (Box.new w4 23 (hc ⟨V2, bc2, rc2, mo2, dc2, num2, blk2, rate2, D⟩))
      have ho25 := ho24.alloc (.cells (hc ⟨V2, bc2, rc2, mo2, dc2, num2, blk2, rate2, D⟩) 23)
      have HL5 := Lib.hid (HL2.out.nix ho25)
      have HO25 := Lib.hid ho25
      have hlt4 : w2.heap.size ≤ w4.heap.size := ho24.size
      clear ho24 ho25 ho4
      have HWX := Lib.hid (HWx.out _ HL5.out)
      simp only [hv, hc] at HWX HX HL5 HO25 ⊢
      go_wp2_with (refine wpList_load_row rfl 23 (.tmp 8) rfl w4.heap.size rfl 23 _ (0, 0) _ HX.out Tryd.underlying23 rfl Tryd.size_header ?_)
      refine (HWX.out).mono ?_
      rintro _ w5 ⟨A2, c2, rfl, _, _, ho5⟩
      have o25 := HO25.out.trans ho5
      have r5 := U.cell_keep o25 q5
      have r6 := U.cell_keep o25 q6
      have r7 := U.cell_keep o25 q7
      have r8 := U.cell_keep o25 q8
      have hX5 := HX.out.only ho5 (fun e => e)
      have s5 : w5.cell? ⟨w4.heap.size, 5, none⟩ = some (iv num2) := hX5.cell 5
      have s6 : w5.cell? ⟨w4.heap.size, 6, none⟩ = some (iv blk2) := hX5.cell 6
      have s7 : w5.cell? ⟨w4.heap.size, 7, none⟩ = some (iv rate2) := hX5.cell 7
      have s8 : w5.cell? ⟨w4.heap.size, 8, none⟩ = some (iv D) := hX5.cell 8
      have HA5 := Lib.hid (HAw.out w5 (HL5.out.nix ho5))
      have HO5 := Lib.hid (HO2.out.trans o25)
      have g1 : (n2 : Int) ≤ n1 := by omega
      have g2 : (6 : Int) ≤ n2 := by omega
      clear o25 ho5 hX5 HLn q0 q3 q5 q6 q7 q8
      go_wp2_with fail
      refine (HA5.out).mono ?_
      rintro _ w6 ⟨rfl, ho6⟩
      have HO6 := Lib.hid (HO5.out.trans ho6)
      clear ho6
      go_wp2
      go_ret
      exact ⟨rfl, HO6.out⟩
  · have hW0 : wrB h = [] := HWn.out hE
    rw [hW0]
    generalize ckE h = E at *
    generalize chE h.mo = E0 at *
    generalize chN h.mo = N0 at *
    have HAL := Lib.hid (HAw.out w2 HL2.out)
    go_wp2_with fail
    refine (HCL.out).mono ?_
    rintro _ _ ⟨rfl, rfl⟩
    go_wp2_with fail
    refine (HAL.out).mono ?_
    rintro _ w3 ⟨rfl, ho3⟩
    have HO3 := Lib.hid (HO2.out.trans ho3)
    clear ho3
    go_wp2
    go_ret
    exact ⟨rfl, HO3.out⟩
end Go.Proofs.YteahiigfclabfaaDoor.H
