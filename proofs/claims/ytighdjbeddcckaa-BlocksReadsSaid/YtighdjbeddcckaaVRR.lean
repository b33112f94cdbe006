/-
  Read: its walk.
-/
import Derived.Test.YtighdjbeddcckaaVRA
namespace Go.Proofs.Ytighdjbeddcckaa
open Go.RowKit Go.Shelf

def mB : Value → Nat
  | .bool true => 0
  | _ => 1
/-- what Read answers -/
def RdR (w : World) (bs : List Nat) (e : Ending) (w' : World) : Prop :=
  (if (rdB bs).2.2 = 0 then ∃ v, e = .returned (.tuple #[v, iv ((rdB bs).2.1 : Nat), iv 0]) ∧ BSrc w' v (rdB bs).1 else e = .returned (.tuple #[.slice none 0 0, iv 0, iv (rdB bs).2.2])) ∧ Only Nix w w'
def FitB (l : List Bk) : Prop := ∀ p ∈ l, (-9223372036854775808 ≤ p.1 ∧ p.1 ≤ 9223372036854775807) ∧ p.2.length ≤ 100000
def RdI (w : World) (bs : List Nat) (s5 s6 s7 : Value) (wr : World) : Prop := ∃ (s f : Nat) (l : List Bk) (xs : List (Int × Value)) (b : Bool), s6 = iv s ∧ s7 = .bool b ∧ s ≤ bs.length ∧ OwnB wr w.heap.size s5 xs ∧ Mt w xs l ∧ 4 * l.length ≤ s ∧ FitB l ∧ (b = false → rdF bs f s l = rdB bs ∧ bs.length < s + f) ∧ (b = true → rdB bs = (l, s, 0) ∧ 0 < l.length) ∧ Only Nix w wr
def RcI (w : World) (B g c : Nat) (l : List Bk) (s41 : Value) (wr : World) : Prop := ∃ (j : Nat) (ys : List (Int × Value)), j ≤ l.length ∧ s41 = iv j ∧ OwnB wr B (.slice (some ⟨g, 0, none⟩) l.length c) ys ∧ Mf w wr g ys l ∧ Only Nix w wr
theorem and128 (x : Nat) (h : x < 256) : bits .and .u8 (x : Int) 128 = if 128 ≤ x then 128 else 0 := by
  have key : ∀ x : Fin 256, bits .and .u8 ((x.val : Nat) : Int) 128 = if 128 ≤ x.val then 128 else 0 := by decide +kernel
  exact key ⟨x, h⟩
set_option maxRecDepth 100000 in
set_option maxHeartbeats 16000000 in
theorem read_any {w : World} {A : Option Addr} {n c : Nat} {bs : List Nat} (hs : CSrc w (.slice A n c) bs) (hn : bs.length ≤ 100000) : Calls Try.prog 10 #[.slice A n c] w fun e w' => RdR w bs e w' := by
  have hlen := hs.src.len
  have hcap := hs.cap _ _ _ rfl
  subst hlen
  have HS := Lib.hid hs
  have HRe : Hid (∀ E w', (rdB bs).2.2 = E → E ≠ 0 → Only Nix w w' → RdR w bs (.returned (.tuple #[.slice none 0 0, iv 0, iv E])) w') := Lib.hid (fun E w' he h0 ho => ⟨by rw [he, if_neg h0], ho⟩)
  have HRk : Hid (∀ l s v w', rdB bs = (l, s, 0) → BSrc w' v l → Only Nix w w' → RdR w bs (.returned (.tuple #[v, iv (s : Nat), iv 0])) w') := Lib.hid (fun l s v w' he hb ho => ⟨by rw [he]; exact ⟨v, rfl, hb⟩, ho⟩)
  have HFt : Hid (∀ (s : Nat) (u : World), s ≤ bs.length → Only Nix w u → Calls Try.prog 27 #[.slice (cutA A c s) (bs.length - s) (c - s)] u fun e w' => FsR u (cutA A c s) (c - s) (bs.drop s) e w') := Lib.hid (fun s u hs hu => first_any ((csrc_from HS.out s hs).nix hu))
  have HSl : Hid (∀ s : Nat, s ≤ bs.length → ∀ u, (Instr.slice 22 (.slice A bs.length c) (some (.int .i64 (s : Int))) none none).run Try.prog u = .ok (.slice (cutA A c s) (bs.length - s) (c - s)) u) := Lib.hid (fun s hs u => slice_from A bs.length c s hs u)
  have HCd : Hid (∀ s : Nat, s ≤ bs.length → fsE (bs.drop s) = 0 → CSrc w (.slice (cutA (cutA A c s) (c - s) 4) (szK (bs.drop s)) (c - s - 4)) (fsK (bs.drop s)).2) := Lib.hid (fun s hs h0 => csrc_win (csrc_from HS.out s hs) 4 _ (by have := (fsE_ok h0).1; rw [List.length_drop] at this; omega))
  have HR0 : Hid (rdF bs (bs.length + 1) 0 [] = rdB bs) := Lib.hid rfl
  clear hs
  go_enter Try.func10, Try.ntmps10
  go_wp2
  go_loopw [5, 6, 7] (fun s5 s6 s7 wr => RdI w bs s5 s6 s7 wr) (fun _ s6 s7 _ => mB s7 * (bs.length + 1 - (intOf s6).toNat))
  case atStart => exact ⟨0, bs.length + 1, [], [], false, rfl, rfl, Nat.zero_le _, OwnB.nil _ _, ⟨rfl, fun j h => absurd h (by simp)⟩, by simp, fun p hp => absurd hp (by simp), fun _ => ⟨HR0.out, by omega⟩, (fun h => by cases h), Only.refl _ _⟩
  case round =>
    obtain ⟨s, f, l, xs, b, rfl, rfl, hs, hown, hmt, h4l, hfb, hbf, hbt, ho⟩ := hrel
    have HW := Lib.hid hown
    have HM := Lib.hid hmt
    have HFb := Lib.hid hfb
    have HO := Lib.hid ho
    have H4l := Lib.hid h4l
    clear hown hmt hfb ho h4l
    cases b with
    | false =>
      obtain ⟨hr, hfs⟩ := hbf rfl
      clear hbf hbt
      obtain ⟨f, rfl⟩ : ∃ f', f = f' + 1 := ⟨f - 1, by omega⟩
      rw [rdF_step] at hr
      have HR := Lib.hid hr
      have hsl := HSl.out s hs
      have HF1 := Lib.hid (HFt.out s wr hs HO.out)
      have HCs := Lib.hid (HCd.out s hs)
      have HsL := Lib.hid hs
      have Hfs := Lib.hid hfs
      clear hr hfs
      obtain ⟨AS, hAS⟩ : ∃ z, cutA A c s = z := ⟨_, rfl⟩
      obtain ⟨NS, hNS⟩ : ∃ z, bs.length - s = z := ⟨_, rfl⟩
      obtain ⟨CS, hCS⟩ : ∃ z, c - s = z := ⟨_, rfl⟩
      rw [hAS, hNS, hCS] at hsl HF1
      rw [hAS, hCS] at HCs
      have HNS := Lib.hid hNS
      clear hAS hNS hCS
      by_cases hE : fsE (bs.drop s) = 0
      · have hok := (fsE_ok hE).1
        rw [List.length_drop] at hok
        have hlt : s < bs.length := by omega
        have HFs : Hid (∀ e w', FsR wr AS CS (bs.drop s) e w' → e = .returned (.tuple #[.agg #[iv (tyK (bs.drop s) : Nat), .slice (cutA AS CS 4) (szK (bs.drop s)) (CS - 4)], iv 0]) ∧ Only Nix wr w') := Lib.hid (fun e w' h => by
          obtain ⟨h1, h2⟩ := h
          rw [if_pos hE] at h1
          exact ⟨h1, h2⟩)
        have HCk := Lib.hid (HCs.out hE)
        have hg0 : (bs.drop s).getD 0 0 = bs[s] := by rw [List.getD_eq_getElem?_getD, List.getElem?_drop, Nat.add_zero, List.getElem?_eq_getElem hlt, Option.getD_some]
        rw [if_pos hE, hg0] at HR
        have hkk : fsK (bs.drop s) = (((tyK (bs.drop s) : Nat) : Int), (fsK (bs.drop s)).2) := rfl
        have hTy : tyK (bs.drop s) < 128 := Nat.mod_lt _ (by decide)
        have hSz := szK_lt (bs.drop s) (fun x hx => HS.out.src.lt x (List.mem_of_mem_drop hx))
        have hx256 := HS.out.src.lt _ (List.getElem_mem hlt)
        obtain ⟨ad, hAd, hx⟩ := (HS.out.src.nix HO.out).at_ hlt
        have HAd := Lib.hid hAd
        have HX : Hid (∀ u, Only Nix wr u → u.cell? (ad.add s) = some (byt bs[s])) := Lib.hid (fun u hu => cell_keep hu hx)
        rw [hkk] at HR
        have HF9 := Lib.hid HF1.out
        generalize bs[s] = x at *
        generalize tyK (bs.drop s) = T at *
        generalize szK (bs.drop s) = S at *
        obtain ⟨D, hD⟩ : ∃ D, (fsK (bs.drop s)).2 = D := ⟨_, rfl⟩
        rw [hD] at HCk HR
        clear hD
        obtain ⟨A9, hA9⟩ : ∃ z, cutA AS CS 4 = z := ⟨_, rfl⟩
        obtain ⟨C9, hC9⟩ : ∃ z, CS - 4 = z := ⟨_, rfl⟩
        rw [hA9, hC9] at HFs HCk
        have ha := and128 x hx256
        have hsi : (s : Int) < (bs.length : Int) := by omega
        have hok2 : s + (4 + S) ≤ bs.length := by omega
        have Hok2 := Lib.hid hok2
        have HXs : Hid (xs.length ≤ 100000) := Lib.hid (by have := H4l.out; have := HM.out.1; omega)
        have HE0 := Lib.hid hE
        clear hA9 hC9 hg0 hkk hx hAd HF1 hok hE
        go_wp2_with fail
        refine (HF9.out).mono ?_
        intro e w2 hw2
        obtain ⟨rfl, o2⟩ := HFs.out e w2 hw2
        obtain rfl : A = some ad := HAd.out
        have a3 := o2.alloc (.cells #[iv 0, .slice none 0 0] 59)
        have b3 := Box.new w2 59 #[iv 0, .slice none 0 0]
        have e0 := b3.cell 0
        have e1 := b3.cell 1
        have z0 := b3.frozen 0
        have z1 := b3.frozen 1
        simp only [List.getElem?_toArray, List.getElem?_cons_zero, List.getElem?_cons_succ] at e0 e1
        have a4 := (a3.setCell (p := ⟨w2.heap.size, 0, none⟩) (.inr o2.size) (iv (T : Nat))).setCell (p := ⟨w2.heap.size, 1, none⟩) (.inr o2.size) (.slice A9 S C9)
        have b4 := box_two b3 (iv (T : Nat)) (.slice A9 S C9)
        obtain ⟨W3, hW3⟩ : ∃ W3, w2.alloc (.cells #[iv 0, .slice none 0 0] 59) = W3 := ⟨_, rfl⟩
        rw [hW3] at a4 b4 e0 e1 z0 z1
        obtain ⟨W4, hW4⟩ : ∃ W4, (W3.setCell ⟨w2.heap.size, 0, none⟩ (iv (T : Nat))).setCell ⟨w2.heap.size, 1, none⟩ (.slice A9 S C9) = W4 := ⟨_, rfl⟩
        rw [hW4] at a4 b4
        have k0 := b4.cell 0
        have k1 := b4.cell 1
        simp only [List.getElem?_toArray, List.getElem?_cons_zero, List.getElem?_cons_succ] at k0 k1
        have hx4 := HX.out W4 a4
        unfold byt at hx4
        have HA4 := Lib.hid (HO.out.trans a4)
        have HW4 := Lib.hid (HW.out.nix a4)
        have HB4 := Lib.hid b4
        have HBw : Hid (wr.heap.size ≤ w2.heap.size) := Lib.hid o2.size
        have HC0 : Hid ((W4.alloc (.cells #[iv (T : Nat), .slice A9 S C9] 59)).cell? ⟨W4.heap.size, 0, none⟩ = some (iv (T : Nat))) := Lib.hid ((Box.new W4 59 #[iv (T : Nat), .slice A9 S C9]).cell 0)
        have HC1 : Hid ((W4.alloc (.cells #[iv (T : Nat), .slice A9 S C9] 59)).cell? ⟨W4.heap.size, 1, none⟩ = some (.slice A9 S C9)) := Lib.hid ((Box.new W4 59 #[iv (T : Nat), .slice A9 S C9]).cell 1)
        have HO5 : Hid (OwnB (W4.alloc (.cells #[iv (T : Nat), .slice A9 S C9] 59)) w.heap.size u5 xs) := Lib.hid (HW4.out.nix ((Only.refl Nix W4).alloc _))
        have HZ5 : Hid (w.heap.size ≤ (W4.alloc (.cells #[iv (T : Nat), .slice A9 S C9] 59)).heap.size) := Lib.hid (HA4.out.alloc _).size
        clear hw2 o2 a3 b3 a4 b4
        by_cases hl : 128 ≤ x
        · rw [if_pos hl] at ha HR
          have HA := Lib.hid ha
          go_wp2_with (at_builtin; refine app_block rfl (.tmp 29) (.tmp 31) rfl w.heap.size u5 xs rfl HO5.out W4.heap.size (T : Nat) (.slice A9 S C9) rfl HC0.out HC1.out rfl HXs.out HZ5.out ?rest1)
          case rest1 =>
            intro v5 w5 r5 g5 m5
            have HR5 := Lib.hid r5
            have HO6 := Lib.hid (((HA4.out.alloc (.cells #[iv (T : Nat), .slice A9 S C9] 59))).grown g5 (fun k hk => .inr (HO5.out.lt hk).1))
            have hb5 := (HB4.out.alloc (.cells #[iv (T : Nat), .slice A9 S C9] 59)).grown g5 (fun hh => by have h1 := (HW.out.lt hh).2; have h2 := HBw.out; omega)
            have n1 := hb5.cell 1
            simp only [List.getElem?_toArray, List.getElem?_cons_zero, List.getElem?_cons_succ] at n1
            clear r5 g5 m5 hb5
            go_wp2
            go_roundw
            case rel => exact ⟨s + (4 + S), f, l ++ [(((T : Nat) : Int), D)], xs ++ [(((T : Nat) : Int), Value.slice A9 S C9)], true, by go_num, rfl, Hok2.out, HR5.out, HM.out.snoc HCk.out, by have := H4l.out; simp; omega, (fun p hp => by
                rcases List.mem_append.1 hp with h | h
                · exact HFb.out p h
                · rw [List.mem_singleton.1 h]; exact ⟨⟨by simp only; omega, by simp only; omega⟩, by have := HCk.out.src.len; simp only; omega⟩), (fun h => by cases h), fun _ => ⟨HR.out.symm, by simp⟩, HO6.out⟩
            case measure => simp [intOf, mB]; omega
        · rw [if_neg hl] at ha HR
          have HA := Lib.hid ha
          go_wp2_with (at_builtin; refine app_block rfl (.tmp 29) (.tmp 31) rfl w.heap.size u5 xs rfl HO5.out W4.heap.size (T : Nat) (.slice A9 S C9) rfl HC0.out HC1.out rfl HXs.out HZ5.out ?rest1)
          case rest1 =>
            intro v5 w5 r5 g5 m5
            have HR5 := Lib.hid r5
            have HO6 := Lib.hid (((HA4.out.alloc (.cells #[iv (T : Nat), .slice A9 S C9] 59))).grown g5 (fun k hk => .inr (HO5.out.lt hk).1))
            have hb5 := (HB4.out.alloc (.cells #[iv (T : Nat), .slice A9 S C9] 59)).grown g5 (fun hh => by have h1 := (HW.out.lt hh).2; have h2 := HBw.out; omega)
            have n1 := hb5.cell 1
            simp only [List.getElem?_toArray, List.getElem?_cons_zero, List.getElem?_cons_succ] at n1
            clear r5 g5 m5 hb5
            go_wp2
            go_roundw
            case rel => exact ⟨s + (4 + S), f, l ++ [(((T : Nat) : Int), D)], xs ++ [(((T : Nat) : Int), Value.slice A9 S C9)], false, by go_num, rfl, Hok2.out, HR5.out, HM.out.snoc HCk.out, by have := H4l.out; simp; omega, (fun p hp => by
                rcases List.mem_append.1 hp with h | h
                · exact HFb.out p h
                · rw [List.mem_singleton.1 h]; exact ⟨⟨by simp only; omega, by simp only; omega⟩, by have := HCk.out.src.len; simp only; omega⟩), fun _ => ⟨HR.out, by have := Hfs.out; omega⟩, (fun h => by cases h), HO6.out⟩
            case measure => simp [intOf, mB]; omega
      · have hE3 := fsE_cases (bs.drop s)
        rw [if_neg hE] at HR
        have HFs : Hid (∀ e w', FsR wr AS CS (bs.drop s) e w' → e = .returned (.tuple #[.agg #[iv 0, .slice none 0 0], iv (fsE (bs.drop s))]) ∧ Only Nix wr w') := Lib.hid (fun e w' h => by
          obtain ⟨h1, h2⟩ := h
          rw [if_neg hE] at h1
          exact ⟨h1, h2⟩)
        have HZz : Hid (∀ w', Only Nix w w' → RdR w bs (.returned (.tuple #[.slice none 0 0, iv 0, iv (fsE (bs.drop s))])) w') := Lib.hid (fun w' ho => HRe.out _ w' (by rw [← HR.out]) hE ho)
        have HF9 := Lib.hid HF1.out
        have hEb : (fsE (bs.drop s) != 0) = true := by simpa using hE
        clear HF1 HR HCs hE hE3
        generalize fsE (bs.drop s) = E at *
        go_wp2_with fail
        refine (HF9.out).mono ?_
        intro e w2 hw2
        obtain ⟨rfl, o2⟩ := HFs.out e w2 hw2
        have a3 := (HO.out.trans o2).alloc (.cells #[iv 0, .slice none 0 0] 59)
        have b3 := Box.new w2 59 #[iv 0, .slice none 0 0]
        have e0 := b3.cell 0
        have e1 := b3.cell 1
        have z0 := b3.frozen 0
        have z1 := b3.frozen 1
        simp only [List.getElem?_toArray, List.getElem?_cons_zero, List.getElem?_cons_succ] at e0 e1
        have a4 := Lib.hid a3
        clear hw2 o2 a3 b3
        go_wp2
        refine bodyPost_ret (results_tmp3 rfl _ _ _) rfl ?_
        exact HZz.out _ a4.out
    | true =>
      obtain ⟨hr, hl0⟩ := hbt rfl
      clear hbf hbt
      obtain ⟨g, c2, cur, rfl, hbg, hgc, _, _, _, _⟩ := HW.out.pos (by rw [HM.out.1]; exact hl0)
      have hxl := HM.out.1
      rw [hxl] at HW hgc ⊢
      have HRf := Lib.hid (fun v w' => HRk.out l s v w' hr)
      have Hgc := Lib.hid hgc
      have Hbg := Lib.hid hbg
      have Hl4 : Hid (l.length ≤ 100000) := Lib.hid (by have := H4l.out; omega)
      have HMf : Hid (Mf w wr g xs l) := Lib.hid ⟨HM.out.1, fun j h1 h2 => ⟨(HM.out.2 j h1 h2).1, .inl (HM.out.2 j h1 h2).2⟩⟩
      have HOp := Lib.hid HO.out
      have hsm : l.length ≤ 100000 := Hl4.out
      clear hr hl0 HM HO hbg hgc hxl
      go_wp2
      go_loopw [41] (fun s41 wr => RcI w w.heap.size g c2 l s41 wr) (fun s41 _ => l.length - (intOf s41).toNat)
      case atStart => exact ⟨0, xs, Nat.zero_le _, rfl, HW.out, HMf.out, HOp.out⟩
      case round =>
        obtain ⟨j, ys, hj, rfl, hown, hmf, ho⟩ := hrel
        have HWj := Lib.hid hown
        have HMj := Lib.hid hmf
        have HOj := Lib.hid ho
        clear hown hmf ho
        by_cases hlt : j < l.length
        · have hlti : (j : Int) < (l.length : Int) := by omega
          have hly : j < ys.length := by rw [HMj.out.1]; exact hlt
          obtain ⟨_, hc1, hz1⟩ := HWj.out.cells hly
          have HFn := Lib.hid ((HMj.out.2 j hly hlt).2)
          have hcl := clone_any (HFn.out.now HOj.out) ((HFb.out _ (List.getElem_mem hlt)).2)
          have HCl := Lib.hid hcl
          have HSet := Lib.hid (fun (u : World) (v : Value) (hu : Only Nix wr u) (hv : CSrc u v l[j].2) (hg : v.ownBlock ≠ some g) => (Mf.set (HMj.out.only (hu.nix : Only (Just g) wr u)) hly hlt hv hg))
          have HPut := Lib.hid (fun (u : World) (v : Value) (hu : Only Nix wr u) => (OwnB.put (HWj.out.nix hu) hly v))
          have Hgl : Hid (g < wr.heap.size) := Lib.hid (HWj.out.lt rfl).2
          generalize ys[j].2 = dv at *
          generalize ys[j].1 = dt at *
          generalize l[j].2 = db at *
          clear hcl
          go_wp2_with fail
          refine (HCl.out).mono ?_
          rintro e w2 ⟨v2, rfl, s2, r2, o2⟩
          obtain ⟨A5, c5, rfl, _⟩ := s2.form
          have hg2 : (Value.slice A5 db.length c5).ownBlock ≠ some g := fun h => by have := (r2.lt h).1; have := Hgl.out; omega
          have hM3 := HSet.out w2 (.slice A5 db.length c5) o2 s2 hg2
          have k3 := (Only.refl (Just g) w2).setCell (p := ⟨g, j * 2 + 1, none⟩) (.inl rfl) (.slice A5 db.length c5)
          have HM4 := Lib.hid (hM3.only k3)
          have HP4 := Lib.hid (HPut.out w2 (.slice A5 db.length c5) o2)
          have HO4 := Lib.hid ((HOj.out.trans o2).setCell (p := ⟨g, j * 2 + 1, none⟩) (.inr Hbg.out) (.slice A5 db.length c5))
          have hc2 := cell_keep o2 hc1
          have hz2 : w2.frozen? ⟨g, j * 2 + 1, none⟩ = false := by
            have := (HWj.out.nix o2).cells hly
            exact this.2.2
          clear s2 r2 o2 hg2 hM3 k3 hc1 hz1
          go_wp2
          go_roundw
          case rel => exact ⟨j + 1, _, hlt, by go_num, HP4.out, HM4.out, HO4.out⟩
          case measure => simp [intOf]; omega
        · obtain rfl : j = l.length := by omega
          have hlti : ¬ ((l.length : Nat) : Int) < (l.length : Int) := by omega
          have HZ := Lib.hid (HRf.out _ _ (ownB_src HWj.out HMj.out HOj.out rfl Hgc.out Hl4.out (fun p hp => (HFb.out p hp).1)) HOj.out)
          go_wp2
          refine bodyPost_ret (results_tmp3 rfl _ _ _) rfl ?_
          exact HZ.out
end Go.Proofs.Ytighdjbeddcckaa
