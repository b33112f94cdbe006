/-
  The document's Read: its walk.
-/
import Derived.Test.YtpgcaijanmpanaaIRB
import Derived.Test.YtpgcaijanmpanaaIBW
import Derived.Test.YtpgcaijanmpanaaIZ
namespace Go.Proofs.Ytpgcaijanmpanaa
open Go.RowKit Go.Shelf

def setF (j : Nat) (v : Int) (i : Nf) : Nf :=
  match j with
  | 0 => { i with r := v }
  | 1 => { i with c := v }
  | 2 => { i with d := v }
  | 3 => { i with mb := v }
  | 4 => { i with xb := v }
  | 5 => { i with mf := v }
  | 6 => { i with xf := v }
  | 7 => { i with t := v }
  | _ => i
theorem nfc_setF (j : Nat) (h : j < 8) (v : Int) (i : Nf) : (nfc i).setIfInBounds j (iv v) = nfc (setF j v i) := by
  rcases (show j = 0 ∨ j = 1 ∨ j = 2 ∨ j = 3 ∨ j = 4 ∨ j = 5 ∨ j = 6 ∨ j = 7 by omega) with rfl | rfl | rfl | rfl | rfl | rfl | rfl | rfl <;> rfl
theorem nfc_at (j : Nat) (h : j < 8) (i : Nf) : (nfc i)[j]? = some (iv (nth i j)) := by
  rcases (show j = 0 ∨ j = 1 ∨ j = 2 ∨ j = 3 ∨ j = 4 ∨ j = 5 ∨ j = 6 ∨ j = 7 by omega) with rfl | rfl | rfl | rfl | rfl | rfl | rfl | rfl <;> rfl
theorem setF_s (j : Nat) (v : Int) (i : Nf) : (setF j v i).s = i.s := by
  unfold setF
  split <;> rfl
/-- what k fields put into an empty info -/
def prI (bs : List Nat) : Nat → Nf
  | 0 => nf0
  | k + 1 => setF (fw k) ((rn bs (fa k) (fb k) + fm k : Nat) : Int) (prI bs k)
theorem prI_s (bs : List Nat) : ∀ k, (prI bs k).s = zS
  | 0 => rfl
  | k + 1 => by rw [prI, setF_s, prI_s bs k]
theorem prI_8 {bs : List Nat} (hl : bs.length = 34) (hb : ∀ x ∈ bs, x < 256) : prI bs 8 = { rdI bs with s := zS } := by
  simp only [prI]
  rw [reads_are hl hb 0 (by decide), reads_are hl hb 1 (by decide), reads_are hl hb 2 (by decide), reads_are hl hb 3 (by decide), reads_are hl hb 4 (by decide), reads_are hl hb 5 (by decide), reads_are hl hb 6 (by decide), reads_are hl hb 7 (by decide)]
  generalize rdI bs = X
  rfl
def sk (bs : List Nat) (k : Nat) : List Nat := (bs.drop 18).take k ++ zS.drop k
theorem nfc_p8 (i : Nf) (k x : Nat) : (nfc i).setIfInBounds (8 + k) (byt x) = nfc { i with s := i.s.set k x } := by
  unfold nfc nfL
  rw [List.setIfInBounds_toArray, List.set_append_right _ _ (by simp)]
  simp [List.map_set]
theorem sk_succ {bs : List Nat} (hl : bs.length = 34) (k : Nat) (hk : k < 16) : (sk bs k).set k (bs.getD (18 + k) 0) = sk bs (k + 1) := by
  have h1 : ((bs.drop 18).take k).length = k := by rw [List.length_take, List.length_drop, hl]; omega
  have h2 : zS.drop k = 0 :: zS.drop (k + 1) := by
    rcases (show k = 0 ∨ k = 1 ∨ k = 2 ∨ k = 3 ∨ k = 4 ∨ k = 5 ∨ k = 6 ∨ k = 7 ∨ k = 8 ∨ k = 9 ∨ k = 10 ∨ k = 11 ∨ k = 12 ∨ k = 13 ∨ k = 14 ∨ k = 15 by omega) with rfl | rfl | rfl | rfl | rfl | rfl | rfl | rfl | rfl | rfl | rfl | rfl | rfl | rfl | rfl | rfl <;> rfl
  have h3 : k < (bs.drop 18).length := by rw [List.length_drop, hl]; omega
  unfold sk
  rw [List.set_append_right _ _ (by rw [h1]; exact Nat.le_refl _), h1, Nat.sub_self, h2, List.set_cons_zero, List.take_succ_eq_append_getElem h3, List.append_assoc, List.getElem_drop, List.getD_eq_getElem?_getD, List.getElem?_eq_getElem (by omega)]
  rfl
theorem sk_len {bs : List Nat} (hl : bs.length = 34) (k : Nat) (hk : k ≤ 16) : (sk bs k).length = 16 := by
  unfold sk
  rw [List.length_append, List.length_take, List.length_drop, List.length_drop, hl, show zS.length = 16 from rfl]
  omega
theorem sk_at {bs : List Nat} (k : Nat) (hl : bs.length = 34) (hk : k < 16) : ∃ v, ((sk bs k).map byt)[k]? = some v := ⟨_, List.getElem?_eq_getElem (by rw [List.length_map, sk_len hl k (by omega)]; exact hk)⟩
theorem sk_16 {bs : List Nat} (hl : bs.length = 34) : ({ rdI bs with s := sk bs 16 } : Nf) = rdI bs := by
  have : sk bs 16 = bs.drop 18 := by
    unfold sk
    rw [List.take_of_length_le (by rw [List.length_drop, hl]; decide), show zS.drop 16 = [] from rfl, List.append_nil]
  rw [this]
  rfl
def RdO (W : World) (g : Nat) (bs : List Nat) (s4 s6 : Value) (wr : World) : Prop := ∃ k : Nat, k ≤ 8 ∧ s4 = iv (fa k : Int) ∧ s6 = iv k ∧ Box wr g 33 (nfc (prI bs k)) ∧ Only (Just g) W wr
def RdJ (W : World) (a m : Nat) (bs : List Nat) (s4 s7 s8 : Value) (wr : World) : Prop := ∃ j p n : Nat, j ≤ m ∧ p = a + j ∧ n = rn bs a j ∧ s4 = iv p ∧ s7 = iv n ∧ s8 = iv j ∧ Only Nix W wr
def RdS (W : World) (g : Nat) (bs : List Nat) (s9 : Value) (wr : World) : Prop := ∃ k : Nat, k ≤ 16 ∧ s9 = iv k ∧ Box wr g 33 (nfc { rdI bs with s := sk bs k }) ∧ Only (Just g) W wr
set_option maxRecDepth 100000 in
set_option maxHeartbeats 8000000 in
theorem readI_any {w : World} {c : Nat} {ad : Addr} {bs : List Nat} (hs : Src w (.slice (some ad) 34 c) bs) :
    Calls Try.prog 18 #[.slice (some ad) 34 c] w fun e w' => e = .returned (.agg (nfc (rdI bs))) ∧ Only Nix w w' := by
  have hlen : bs.length = 34 := hs.len.symm
  have hb : ∀ x ∈ bs, x < 256 := hs.lt
  have HSm : Hid (SumOk (rdI bs).s) := Lib.hid ⟨by show (bs.drop 18).length = 16; rw [List.length_drop, hlen], fun x hx => hb x (List.mem_of_mem_drop hx)⟩
  have HCell : Hid (∀ j, j < 34 → w.cell? (ad.add j) = some (.int .u8 ((bs.getD j 0 : Nat) : Int))) := Lib.hid (fun j hj => by
    obtain ⟨ad', e, hx⟩ := hs.at_ (k := j) (by omega)
    injection e with e
    subst e
    rw [hx, List.getD_eq_getElem?_getD, List.getElem?_eq_getElem (by omega)]
    rfl)
  have HLt : Hid (∀ j, bs.getD j 0 < 256) := Lib.hid (fun j => by
    rw [List.getD_eq_getElem?_getD]
    cases h : bs[j]? with
    | none => decide
    | some x => exact hb x (List.mem_of_getElem? h))
  have HLen := Lib.hid hlen
  have HB8 := Lib.hid hb
  have hadb : ad.block < w.heap.size := by
    obtain ⟨ad', e, hx⟩ := hs.at_ (k := 0) (by omega)
    injection e with e
    subst e
    have := World.block_lt_of_cell? w _ hx
    rwa [add_block] at this
  have Hadb := Lib.hid hadb
  have a1 := (Only.refl Nix w).alloc (.cells zC 33)
  have b1 := Box.new w 33 zC
  obtain ⟨W1, hW1⟩ : ∃ W1, w.alloc (.cells zC 33) = W1 := ⟨_, rfl⟩
  rw [hW1] at a1 b1
  have a2 := a1.alloc (.cells zC 33)
  have b1 := b1.alloc (.cells zC 33)
  have b2 := Box.new W1 33 zC
  obtain ⟨W2, hW2⟩ : ∃ W2, W1.alloc (.cells zC 33) = W2 := ⟨_, rfl⟩
  rw [hW2] at a2 b1 b2
  have HF := Lib.hid (@fields_any W2)
  have a3 := a2.alloc (.cells fC 64)
  have b1 := b1.alloc (.cells fC 64)
  have b2 := b2.alloc (.cells fC 64)
  have b3 := Box.new W2 64 fC
  have hg12 : w.heap.size < W1.heap.size := by rw [← hW1]; simp
  have hg23 : W1.heap.size < W2.heap.size := by rw [← hW2]; simp
  obtain ⟨W3, hW3⟩ : ∃ W3, W2.alloc (.cells fC 64) = W3 := ⟨_, rfl⟩
  rw [hW3] at a3 b1 b2 b3 HF
  have HT3 : Hid (∀ u, Only (Just W1.heap.size) W3 u → ∀ k, k < 8 → u.cell? ⟨W2.heap.size, k * 3, none⟩ = some (iv (fw k : Int)) ∧ u.cell? ⟨W2.heap.size, k * 3 + 1, none⟩ = some (iv (fb k : Int)) ∧ u.cell? ⟨W2.heap.size, k * 3 + 2, none⟩ = some (iv (fm k : Int))) := Lib.hid (fun u ho k hk => by
    have b3 := b3.only ho (fun e => by rw [show W2.heap.size = W1.heap.size from e] at hg23; omega)
    exact ⟨(b3.cell _).trans (fC_w k hk).1, (b3.cell _).trans (fC_w k hk).2.1, (b3.cell _).trans (fC_w k hk).2.2⟩)
  have HCs : Hid (∀ u, Only (Just W1.heap.size) W3 u → ∀ j, j < 34 → u.cell? (ad.add j) = some (.int .u8 ((bs.getD j 0 : Nat) : Int))) := Lib.hid (fun u ho j hj => by
    refine cell_only ho (cell_keep a3 (HCell.out j hj)) (fun e => ?_)
    rw [add_block] at e
    have := Hadb.out
    rw [show ad.block = W1.heap.size from e] at this
    omega)
  have HO := Lib.hid a3
  have HB2 := Lib.hid (show Box W3 W1.heap.size 33 (nfc nf0) from b2)
  have HB1 := Lib.hid (show Box W3 w.heap.size 33 (nfc nf0) from b1)
  have H12 := Lib.hid hg12
  clear hs hlen hb hadb a1 b1 a2 b2 a3 b3 hW3 hg12 hg23
  go_enter Try.func18, Try.ntmps18
  go_wp2_with fail
  refine (HF.out).mono ?_
  rintro e w2 ⟨rfl, hw⟩
  obtain rfl := hw.symm
  clear hw
  go_wp2
  go_loopw [4, 6, 7, 8] (fun s4 s6 _ _ wr => RdO W3 W1.heap.size bs s4 s6 wr) (fun _ s6 _ _ _ => 8 - (intOf s6).toNat)
  case atStart => exact ⟨0, by decide, rfl, rfl, HB2.out, Only.refl _ _⟩
  case round =>
    obtain ⟨k, hk, rfl, rfl, hbx, ho⟩ := hrel
    obtain ⟨V, rfl⟩ : ∃ V, V = wr := ⟨_, rfl⟩
    by_cases hlt : k < 8
    · have hlti : (k : Int) < 8 := by omega
      obtain ⟨c1, c2, c3⟩ := HT3.out _ ho k hlt
      have HOk := Lib.hid ho
      have HBk := Lib.hid hbx
      have HP : Hid (prI bs (k + 1) = setF (fw k) ((rn bs (fa k) (fb k) + fm k : Nat) : Int) (prI bs k)) := Lib.hid rfl
      have HFa := Lib.hid (fa_succ k hlt)
      have hle := fa_le k hlt
      have hfw := fw_lt k hlt
      have hRn := Lib.hid (rn_lt bs (fa k))
      have hm36 : fb k ≤ 36 := (fb_le k hlt).2
      have hd1 : fm k ≤ 1 := by
        rcases (show k = 0 ∨ k = 1 ∨ k = 2 ∨ k = 3 ∨ k = 4 ∨ k = 5 ∨ k = 6 ∨ k = 7 by omega) with rfl | rfl | rfl | rfl | rfl | rfl | rfl | rfl <;> decide
      have HC1 := Lib.hid c1
      have HC2 := Lib.hid c2
      have HC3 := Lib.hid c3
      generalize prI bs k = I at *
      generalize fw k = f at *
      generalize fb k = m at *
      generalize fm k = d at *
      generalize fa k = a at *
      clear hbx ho c1 c3
      go_wp2_with fail
      go_loopw [4, 7, 8] (fun s4 s7 s8 u => RdJ V a m bs s4 s7 s8 u) (fun _ _ s8 _ => m - (intOf s8).toNat)
      case atStart => exact ⟨0, a, 0, Nat.zero_le _, rfl, rfl, rfl, rfl, rfl, Only.refl _ _⟩
      case round =>
        obtain ⟨j, p, n, hj, hp, hn, rfl, rfl, rfl, ho⟩ := hrel
        obtain ⟨U, rfl⟩ : ∃ U, U = wr := ⟨_, rfl⟩
        have HOj := Lib.hid ho
        have hcb := cell_keep ho HC2.out
        clear c2
        by_cases hjm : j < m
        · have hjmi : (j : Int) < (m : Int) := by omega
          have hx := HCs.out U (HOk.out.trans ho.nix) (p / 8) (by omega)
          have e1 : (p : Int).tdiv 8 = ((p / 8 : Nat) : Int) := by rw [Int.tdiv_eq_ediv_of_nonneg (by omega)]; omega
          have e2 : (p : Int).tmod 8 = ((p % 8 : Nat) : Int) := by rw [Int.tmod_eq_emod_of_nonneg (by omega)]; omega
          have HNx : Hid (rn bs a (j + 1) = 2 * n + bs.getD (p / 8) 0 / 2 ^ (7 - p % 8) % 2) := Lib.hid (by rw [rn, ← hn, ← hp]; rfl)
          have hx256 := HLt.out (p / 8)
          have hn36 : n < 68719476736 := Nat.lt_of_lt_of_le (by rw [hn]; exact hRn.out j) (show 2 ^ j ≤ 2 ^ 36 from Nat.pow_le_pow_right (by decide) (by omega))
          have hq34 : p / 8 < 34 := by omega
          have hr8 : p % 8 < 8 := by omega
          have hp144 : p < 144 := by omega
          have HPj := Lib.hid hp
          have HNj := Lib.hid hn
          obtain ⟨q, hq⟩ : ∃ q, p / 8 = q := ⟨_, rfl⟩
          obtain ⟨r, hr⟩ : ∃ r, p % 8 = r := ⟨_, rfl⟩
          rw [hq] at e1 hx HNx hx256 hq34
          rw [hr] at e2 HNx hr8
          generalize bs.getD q 0 = x at *
          obtain ⟨K, hK⟩ : ∃ K, 7 - r = K := ⟨_, rfl⟩
          rw [hK] at HNx
          have hK8 : K < 8 := by omega
          have e3 : (7 : Int) - (r : Int) = (K : Int) := by omega
          have hy : x / 2 ^ K ≤ x := Nat.div_le_self _ _
          have e4 : (x : Int) / 2 ^ K = ((x / 2 ^ K : Nat) : Int) := by rw [pow_cast, Int.natCast_ediv]
          obtain ⟨y, hy'⟩ : ∃ y, x / 2 ^ K = y := ⟨_, rfl⟩
          rw [hy'] at HNx hy e4
          have e5 : (y : Int).tmod 2 = ((y % 2 : Nat) : Int) := by rw [Int.tmod_eq_emod_of_nonneg (by omega)]; omega
          have hB2 : y % 2 < 2 := by omega
          generalize y % 2 = B at *
          clear hp hn hq hr hK hy' ho
          go_wp2
          go_roundw
          case rel => exact ⟨j + 1, p + 1, 2 * n + B, hjm, by have := HPj.out; omega, HNx.out.symm, by go_num, by go_num, by go_num, HOj.out⟩
          case measure => simp [intOf]; omega
        · obtain rfl : j = m := by omega
          have hc1 := cell_keep ho HC1.out
          have hc3 := cell_keep ho HC3.out
          have hbx := HBk.out.only ho (fun e => e)
          have hc := (hbx.cell f).trans (nfc_at f hfw I)
          have hf := hbx.frozen f
          have hN : ((rn bs a j + d : Nat) : Int) = (n : Int) + (d : Int) := by rw [← hn]; omega
          have HBn := Lib.hid (hbx.put f (iv ((n : Int) + (d : Int))))
          rw [nfc_setF f hfw, ← hN, ← HP.out, hN] at HBn
          have HOn := Lib.hid ((HOk.out.trans ho.nix).setCell (p := ⟨W1.heap.size, f, none⟩) (.inl rfl) (iv ((n : Int) + (d : Int))))
          have hn36 : n < 68719476736 := Nat.lt_of_lt_of_le (by rw [hn]; exact hRn.out j) (show 2 ^ j ≤ 2 ^ 36 from Nat.pow_le_pow_right (by decide) (by omega))
          have HPp : Hid (p = fa (k + 1)) := Lib.hid (by rw [HFa.out]; exact hp)
          have hfi : (f : Int) < 8 := by omega
          clear hbx hp hN hn ho
          go_wp2_with fail
          go_region
          go_wp2
          go_roundw
          case rel => exact ⟨k + 1, hlt, by rw [HPp.out], by go_num, HBn.out.drew, HOn.out.drew⟩
          case measure => simp [intOf]; omega
    · obtain rfl : k = 8 := by omega
      rw [show ((8 : Nat) : Int) = 8 from rfl]
      rw [prI_8 HLen.out HB8.out] at hbx
      have HBk : Hid (Box V W1.heap.size 33 (nfc { rdI bs with s := sk bs 0 })) := Lib.hid hbx
      have HOk := Lib.hid ho
      clear hbx ho hk hlt
      go_wp2
      go_loopw [9] (fun s9 wr => RdS W3 W1.heap.size bs s9 wr) (fun s9 _ => 16 - (intOf s9).toNat)
      case atStart => exact ⟨0, by decide, rfl, HBk.out, HOk.out⟩
      case round =>
        obtain ⟨k, hk, rfl, hbx, ho⟩ := hrel
        obtain ⟨U, rfl⟩ : ∃ U, U = wr := ⟨_, rfl⟩
        by_cases hlt : k < 16
        · have hlti : (k : Int) < 16 := by omega
          have hx := HCs.out U ho (18 + k) (by omega)
          have hs1 := sk_succ HLen.out k hlt
          obtain ⟨v, hv⟩ := sk_at k HLen.out hlt
          have hc := (hbx.cell (8 + k)).trans ((nfc_8 _ k).trans hv)
          have hf := hbx.frozen (8 + k)
          have hbn := hbx.put (8 + k) (byt (bs.getD (18 + k) 0))
          rw [nfc_p8] at hbn
          simp only [hs1] at hbn
          have HBn := Lib.hid hbn
          have HOn := Lib.hid (ho.setCell (p := ⟨W1.heap.size, 8 + k, none⟩) (.inl rfl) (byt (bs.getD (18 + k) 0)))
          have hx256 := HLt.out (18 + k)
          generalize bs.getD (18 + k) 0 = x at *
          unfold byt at HBn HOn
          clear hbn hbx hs1 ho hv
          go_wp2_with fail
          go_roundw
          case rel => exact ⟨k + 1, hlt, by go_num, HBn.out, HOn.out⟩
          case measure => simp [intOf]; omega
        · obtain rfl : k = 16 := by omega
          rw [show ((16 : Nat) : Int) = 16 from rfl]
          rw [sk_16 HLen.out] at hbx
          have HBx := Lib.hid hbx
          have HB0 := Lib.hid (HB1.out.only ho (fun e => by have := H12.out; rw [show w.heap.size = W1.heap.size from e] at this; omega))
          have HOe0 := Lib.hid ho
          clear hbx ho hk hlt
          go_wp2_with (first
            | (refine wpList_load_ref rfl (.tmp 3) rfl W1.heap.size (rdI bs) rfl HBx.out HSm.out ?_)
            | (refine wpList_store_ref rfl (.tmp 2) (.tmp 68) rfl rfl w.heap.size (rdI bs) nf0 rfl rfl HB0.out HSm.out sum0_ok ?_)
            | fail)
          intro we hBe hoe
          have HCe := Lib.hid hBe
          have HOe := Lib.hid ((HO.out.then HOe0.out (fun i e => .inr (by rw [show i = _ from e]; exact Nat.le_of_lt H12.out))).then hoe (fun i e => .inr (by rw [show i = _ from e]; exact Nat.le_refl _)))
          clear hBe hoe
          go_wp2
          exact bodyPost_ret (v := .agg (nfc (rdI bs))) (results_cell_row rfl _ _ w.heap.size 33 (nfc (rdI bs)) (0, 0) _ rfl HCe.out Try.underlying33 rfl (by rw [nfc_size HSm.out]; exact Try.size_ref)) rfl ⟨rfl, HOe.out⟩
end Go.Proofs.Ytpgcaijanmpanaa
