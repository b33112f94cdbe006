/-
  InfoBack: its walk.
-/
import Derived.Test.YtpgcaijanmpanaaIX
namespace Go.Proofs.Ytpgcaijanmpanaa
open Go.RowKit Go.Shelf

def EqP (w : World) (m : Nat) (s5 : Value) (wr : World) : Prop := ∃ j : Nat, j ≤ m ∧ s5 = iv j ∧ Only Nix w wr
set_option maxHeartbeats 400000 in
theorem equal_any {w : World} (A B : Option Addr) (c d : Nat) (bs : List Nat) (ha : Src w (.slice A bs.length c) bs) (hb : Src w (.slice B bs.length d) bs) :
    Calls Try.prog 14 #[.slice A bs.length c, .slice B bs.length d] w fun e w' => e = .returned (.bool true) ∧ Only Nix w w' := by
  have Ha := Lib.hid ha
  have Hb := Lib.hid hb
  have hsm := ha.small
  clear ha hb
  go_enter Try.func14, Try.ntmps14
  go_wp2
  go_loopw [5] (fun s5 wr => EqP w bs.length s5 wr) (fun s5 _ => bs.length - (intOf s5).toNat)
  case atStart => exact ⟨0, Nat.zero_le _, rfl, Only.refl _ _⟩
  case round =>
    obtain ⟨j, hj, rfl, ho⟩ := hrel
    by_cases hlt : j < bs.length
    · obtain ⟨ad, rfl, hx⟩ := (Ha.out.nix ho).at_ hlt
      obtain ⟨bd, rfl, hy⟩ := (Hb.out.nix ho).at_ hlt
      have hx256 := Ha.out.lt _ (List.getElem_mem hlt)
      generalize bs[j] = x at *
      unfold byt at hx hy
      have hlt2 : (j : Int) < (bs.length : Int) := by omega
      go_wp2
      go_quiet (fail)
      go_wp2
      go_roundw
      case rel => exact ⟨j + 1, by omega, by go_num, ho.drewN _⟩
      case measure => simp [intOf]; omega
    · have hlt2 : decide (j < bs.length) = false := by simp; omega
      go_wp2
      go_ret
      exact ⟨rfl, ho⟩
/-- .. of any spelling -/
theorem equal_at {u : World} {v1 v2 : Value} {bs : List Nat} (ha : Src u v1 bs) (hb : Src u v2 bs) :
    Calls Try.prog 14 #[v1, v2] u fun e w' => e = .returned (.bool true) ∧ Only Nix u w' := by
  obtain ⟨A, c, rfl⟩ := ha.slice
  obtain ⟨B, d, rfl⟩ := hb.slice
  exact equal_any A B c d bs ha hb
theorem Owns.cap {α : Type} {w : World} {base : Nat} {e : TypeId} {f : α → Value} {xs : List α} {A : Option Addr} {n c : Nat} (h : Owns w base e f (.slice A n c) xs) : n ≤ c := by
  rcases h.2 with ⟨e1, _⟩ | ⟨g, cap, cur, e1, _, _, hle, _⟩
  · injection e1 with _ e2 e3; omega
  · injection e1 with _ e2 e3; omega
theorem rdA_wr {i : Nf} (h : mayI i) (hs : SumOk i.s) : rdA (wrB i) = i ∧ rdE (wrB i) = 0 := by
  have hl := wr_len hs
  have hr := rd_wr h hs
  constructor
  · unfold rdA
    rw [hr, if_pos ⟨hl, h⟩]
  · unfold rdE
    rw [if_neg (by omega), if_neg (by omega), hr, if_pos h]
theorem rd_no {bs : List Nat} (h : rdE bs ≠ 0) : rdA bs = nf0 := by
  unfold rdA
  refine if_neg (fun hh => h ?_)
  unfold rdE
  rw [if_neg (by omega), if_neg (by omega), if_pos hh.2]
theorem rd_yes {bs : List Nat} (h : rdE bs = 0) : bs.length = 34 ∧ mayI (rdI bs) ∧ rdA bs = rdI bs := by
  unfold rdE at h
  by_cases h1 : bs.length < 34
  · rw [if_pos h1] at h; cases h
  · by_cases h2 : 34 < bs.length
    · rw [if_neg h1, if_pos h2] at h; cases h
    · rw [if_neg h1, if_neg h2] at h
      have hm : mayI (rdI bs) := Decidable.byContradiction fun hm => by rw [if_neg hm] at h; cases h
      have hl : bs.length = 34 := by omega
      exact ⟨hl, hm, if_pos ⟨hl, hm⟩⟩
set_option maxRecDepth 100000 in
set_option maxHeartbeats 8000000 in
theorem infoBack_any {w : World} {v : Value} (i : Nf) (hi : SumOk i.s) {bs : List Nat} (hs : Src w v bs) (hcap : ∀ A n c, v = .slice A n c → n ≤ c) :
    Calls Try.prog 5 #[.agg (nfc i), v] w fun e w' => e = .returned (.bool true) ∧ Only Nix w w' := by
  obtain ⟨A, c, rfl⟩ := hs.slice
  have hsm := hs.small
  have a1 := (Only.refl Nix w).alloc (.cells (nfc i) 26)
  have b1 := Box.new w 26 (nfc i)
  have HRb : Hid (∀ u, Only Nix w u → Calls Try.prog 17 #[.slice A bs.length c] u fun e w' => RdR u bs e w') := Lib.hid (fun u hu => read_any (hs.nix hu) hcap)
  obtain ⟨W1, hW1⟩ : ∃ W1, w.alloc (.cells (nfc i) 26) = W1 := ⟨_, rfl⟩
  rw [hW1] at a1 b1
  have HS := Lib.hid hs
  have hbb : Hid (∀ x ∈ bs, x < 256) := Lib.hid hs.lt
  have HO := Lib.hid a1
  have HB := Lib.hid b1
  have HI := Lib.hid hi
  have HWr := Lib.hid (write_any (w := W1) i hi)
  have HAw : Hid (∀ u, Calls Try.prog 13 #[] u fun e w' => e = .returned (.bool true) ∧ Only Nix u w') := Lib.hid awake_any
  have HNi := Lib.hid (run_neq_info i hi)
  have HGi := Lib.hid guard_info
  clear a1 b1 hs hcap
  by_cases h100 : 100 < bs.length
  · have h100i : (100 : Int) < (bs.length : Int) := by omega
    have HA1 := Lib.hid (HAw.out W1)
    obtain ⟨C, hC⟩ : ∃ C, nfc i = C := ⟨_, rfl⟩
    rw [hC] at hW1 ⊢
    clear hi hC
    go_enter Try.func5, Try.ntmps5
    go_wp2_with fail
    refine (HA1.out).mono ?_
    rintro e w2 ⟨rfl, o2⟩
    have HO2 := Lib.hid (HO.out.trans o2)
    clear o2
    go_wp2
    go_ret
    exact ⟨rfl, HO2.out⟩
  · have h100i : ¬ (100 : Int) < (bs.length : Int) := by omega
    by_cases hm : mayI i
    · have hck : ckI i = 0 := if_pos hm
      have hwl := wr_len hi
      obtain ⟨hra, hre⟩ := rdA_wr hm hi
      have HW2 : Hid (∀ e w', WrR W1 i e w' → ∃ A5 c5, e = .returned (.tuple #[.slice A5 34 c5, iv 0]) ∧ Src w' (.slice A5 34 c5) (wrB i) ∧ 34 ≤ c5 ∧ Only Nix W1 w') := Lib.hid (fun e w' h => by
        obtain ⟨⟨v5, rfl, hown⟩, ho⟩ := h
        rw [if_pos hm] at hown
        obtain ⟨A5, c5, rfl⟩ := hown.slice
        have hcp := hown.cap
        have hsr := hown.bytes (by omega) (wr_lt hi)
        rw [hwl] at hsr hcp ⊢
        rw [hck]
        exact ⟨A5, c5, rfl, hsr, hcp, ho⟩)
      have HRa : Hid (∀ u A5 c5, Src u (.slice A5 34 c5) (wrB i) → 34 ≤ c5 → Calls Try.prog 17 #[.slice A5 34 c5] u fun e w' => e = .returned (.tuple #[.agg (nfc i), iv 0]) ∧ Only Nix u w') := Lib.hid (fun u A5 c5 h1 h2 => (read_any h1 (fun A n c e => by injection e with _ e2 e3; omega)).mono fun e w' h => by
        obtain ⟨he, ho⟩ := h
        rw [hra, hre] at he
        exact ⟨he, ho⟩)
      clear hi hck hwl hra hre hm
      go_enter Try.func5, Try.ntmps5
      go_wp2_with (first
        | (refine wpList_load_info rfl (.tmp 2) rfl w.heap.size i rfl HB.out HI.out ?_)
        | fail)
      refine (HWr.out).mono ?_
      intro e w2 hw2
      obtain ⟨A5, c5, rfl, s5, hc5, o2⟩ := HW2.out e w2 hw2
      have HR2 := Lib.hid (HRa.out w2 A5 c5 s5 hc5)
      have HO2 := Lib.hid o2
      clear hw2 s5 o2
      go_wp2_with fail
      refine (HR2.out).mono ?_
      rintro e w3 ⟨rfl, o3⟩
      have HO3 := Lib.hid ((HO2.out.trans o3).alloc (.cells zC 26))
      have hle3 : W1.heap.size ≤ w3.heap.size := (HO2.out.trans o3).size
      clear o3
      go_wp2_with (first
        | (refine wpList_store_info rfl (.tmp 7) (.tmp 27) rfl rfl w3.heap.size i nf0 rfl rfl (Box.new w3 _ _) HI.out sum0_ok ?_)
        | fail)
      intro u4 hB4 ho4
      have HB4 := Lib.hid hB4
      have HO4 := Lib.hid (HO3.out.then ho4 (fun i e => .inr (by rw [show i = _ from e]; exact hle3)))
      have HBi := Lib.hid (HB.out.only HO4.out (fun e => e))
      have hni := HNi.out
      have hgi := HGi.out
      clear hB4 ho4
      go_wp2_with (first
        | (refine wpList_load_info rfl (.tmp 7) rfl w3.heap.size i rfl HB4.out HI.out ?_)
        | (refine wpList_load_info rfl (.tmp 2) rfl w.heap.size i rfl HBi.out HI.out ?_)
        | fail)
      clear hni hgi
      have HU := Lib.hid (HO.out.trans HO4.out)
      have HRb1 := Lib.hid (HRb.out u4 HU.out)
      refine (HRb1.out).mono ?_
      rintro e w5 ⟨rfl, o5⟩
      have HY : Hid (SumOk (rdA bs).s) := Lib.hid (rdA_sum hbb.out)
      have HO5 := Lib.hid ((HU.out.trans o5).alloc (.cells zC 26))
      have hle5 : w.heap.size ≤ w5.heap.size := (HU.out.trans o5).size
      clear o5
      by_cases hok : rdE bs = 0
      · obtain ⟨hl34, hmay, heq⟩ := rd_yes hok
        have HX : Hid (SumOk (rdI bs).s) := Lib.hid (rd_sum hl34 hbb.out)
        rw [heq, hok]
        have HW6 : Hid (∀ u, Calls Try.prog 9 #[.agg (nfc (rdI bs))] u fun e w' => ∃ v6, e = .returned (.tuple #[v6, iv 0]) ∧ Src w' v6 bs ∧ Only Nix u w') := Lib.hid (fun u => (write_any (rdI bs) HX.out).mono fun e w' h => by
          obtain ⟨⟨v6, rfl, hown⟩, ho⟩ := h
          rw [if_pos hmay, wr_rd hl34 hbb.out] at hown
          exact ⟨v6, by rw [show ckI (rdI bs) = 0 from if_pos hmay], hown.bytes (by omega) hbb.out, ho⟩)
        clear hok heq hmay hl34
        generalize rdI bs = X at *
        go_wp2_with (first
          | (refine wpList_store_info rfl (.tmp 9) (.tmp 44) rfl rfl w5.heap.size X nf0 rfl rfl (Box.new w5 _ _) HX.out sum0_ok ?_)
          | fail)
        intro u6 hB6 ho6
        have HB6 := Lib.hid hB6
        have HO6 := Lib.hid (HO5.out.then ho6 (fun i e => .inr (by rw [show i = _ from e]; exact hle5)))
        clear hB6 ho6
        go_wp2_with (first
          | (refine wpList_load_info rfl (.tmp 9) rfl w5.heap.size X rfl HB6.out HX.out ?_)
          | fail)
        refine (HW6.out u6).mono ?_
        rintro e w7 ⟨v6, rfl, s6, o7⟩
        have HO7 := Lib.hid (HO6.out.trans o7)
        have HE7 := Lib.hid (equal_at s6 (HS.out.nix HO7.out))
        clear s6 o7
        go_wp2_with fail
        refine (HE7.out).mono ?_
        rintro e w8 ⟨rfl, o8⟩
        have HO8 := Lib.hid (HO7.out.trans o8)
        have HA8 := Lib.hid (HAw.out w8)
        clear o8
        go_wp2_with fail
        refine (HA8.out).mono ?_
        rintro e w9 ⟨rfl, o9⟩
        have HO9 := Lib.hid (HO8.out.trans o9)
        clear o9
        go_wp2
        go_ret
        exact ⟨rfl, HO9.out⟩
      · rw [rd_no hok]
        have hokb : (rdE bs != 0) = true := by simp [hok]
        have Hok := Lib.hid hok
        have HN0 := run_eql_info nf0 sum0_ok
        have HGi0 := guard_info
        clear hok
        generalize rdE bs = E at *
        obtain ⟨Z0, hZ0⟩ : ∃ Z, nf0 = Z := ⟨_, rfl⟩
        have HZs : Hid (SumOk Z0.s) := Lib.hid (by rw [← hZ0]; exact sum0_ok)
        have HZb : Hid (Try.prog.built 26 [] = some (nfc Z0)) := Lib.hid (by rw [← hZ0]; exact built_zero)
        have HZc : Hid (Box (w5.alloc (.cells zC 26)) w5.heap.size 26 (nfc Z0)) := Lib.hid (by rw [← hZ0]; exact Box.new w5 _ _)
        rw [hZ0] at HN0 ⊢
        clear hZ0
        go_wp2_with (first
          | (refine wpList_store_info rfl (.tmp 9) (.tmp 44) rfl rfl w5.heap.size Z0 Z0 rfl rfl HZc.out HZs.out HZs.out ?_)
          | fail)
        intro u6 hB6 ho6
        have HB6 := Lib.hid hB6
        have HO6 := Lib.hid (HO5.out.then ho6 (fun i e => .inr (by rw [show i = _ from e]; exact hle5)))
        have HA6 := Lib.hid (HAw.out u6)
        clear hB6 ho6
        go_wp2_with (first
          | (refine wpList_load_info rfl (.tmp 9) rfl w5.heap.size Z0 rfl HB6.out HZs.out ?_)
          | (refine wpList_build_is rfl _ _ rfl (nfc Z0) (by simp; exact HZb.out) ?_)
          | fail)
        refine (HA6.out).mono ?_
        rintro e w9 ⟨rfl, o9⟩
        have HO9 := Lib.hid (HO6.out.trans o9)
        clear o9
        go_wp2
        go_ret
        exact ⟨rfl, HO9.out⟩
    · have hck : ckI i = 10 := if_neg hm
      have HW2 : Hid (∀ e w', WrR W1 i e w' → ∃ A5 n5 c5, e = .returned (.tuple #[.slice A5 n5 c5, iv 10]) ∧ Only Nix W1 w') := Lib.hid (fun e w' h => by
        obtain ⟨⟨v5, rfl, hown⟩, ho⟩ := h
        obtain ⟨A5, c5, rfl⟩ := hown.slice
        rw [hck]
        exact ⟨A5, _, c5, rfl, ho⟩)
      clear hi hck hm
      go_enter Try.func5, Try.ntmps5
      go_wp2_with (first
        | (refine wpList_load_info rfl (.tmp 2) rfl w.heap.size i rfl HB.out HI.out ?_)
        | fail)
      refine (HWr.out).mono ?_
      intro e u4 hw2
      obtain ⟨A5, n5, c5, rfl, o2⟩ := HW2.out e u4 hw2
      have HU := Lib.hid (HO.out.trans o2)
      have HRb1 := Lib.hid (HRb.out u4 HU.out)
      clear hw2 o2
      go_wp2_with fail
      refine (HRb1.out).mono ?_
      rintro e w5 ⟨rfl, o5⟩
      have HY : Hid (SumOk (rdA bs).s) := Lib.hid (rdA_sum hbb.out)
      have HO5 := Lib.hid ((HU.out.trans o5).alloc (.cells zC 26))
      have hle5 : w.heap.size ≤ w5.heap.size := (HU.out.trans o5).size
      clear o5
      by_cases hok : rdE bs = 0
      · obtain ⟨hl34, hmay, heq⟩ := rd_yes hok
        have HX : Hid (SumOk (rdI bs).s) := Lib.hid (rd_sum hl34 hbb.out)
        rw [heq, hok]
        have HW6 : Hid (∀ u, Calls Try.prog 9 #[.agg (nfc (rdI bs))] u fun e w' => ∃ v6, e = .returned (.tuple #[v6, iv 0]) ∧ Src w' v6 bs ∧ Only Nix u w') := Lib.hid (fun u => (write_any (rdI bs) HX.out).mono fun e w' h => by
          obtain ⟨⟨v6, rfl, hown⟩, ho⟩ := h
          rw [if_pos hmay, wr_rd hl34 hbb.out] at hown
          exact ⟨v6, by rw [show ckI (rdI bs) = 0 from if_pos hmay], hown.bytes (by omega) hbb.out, ho⟩)
        clear hok heq hmay hl34
        generalize rdI bs = X at *
        go_wp2_with (first
          | (refine wpList_store_info rfl (.tmp 9) (.tmp 44) rfl rfl w5.heap.size X nf0 rfl rfl (Box.new w5 _ _) HX.out sum0_ok ?_)
          | fail)
        intro u6 hB6 ho6
        have HB6 := Lib.hid hB6
        have HO6 := Lib.hid (HO5.out.then ho6 (fun i e => .inr (by rw [show i = _ from e]; exact hle5)))
        clear hB6 ho6
        go_wp2_with (first
          | (refine wpList_load_info rfl (.tmp 9) rfl w5.heap.size X rfl HB6.out HX.out ?_)
          | fail)
        refine (HW6.out u6).mono ?_
        rintro e w7 ⟨v6, rfl, s6, o7⟩
        have HO7 := Lib.hid (HO6.out.trans o7)
        have HE7 := Lib.hid (equal_at s6 (HS.out.nix HO7.out))
        clear s6 o7
        go_wp2_with fail
        refine (HE7.out).mono ?_
        rintro e w8 ⟨rfl, o8⟩
        have HO8 := Lib.hid (HO7.out.trans o8)
        have HA8 := Lib.hid (HAw.out w8)
        clear o8
        go_wp2_with fail
        refine (HA8.out).mono ?_
        rintro e w9 ⟨rfl, o9⟩
        have HO9 := Lib.hid (HO8.out.trans o9)
        clear o9
        go_wp2
        go_ret
        exact ⟨rfl, HO9.out⟩
      · rw [rd_no hok]
        have hokb : (rdE bs != 0) = true := by simp [hok]
        have Hok := Lib.hid hok
        have HN0 := run_eql_info nf0 sum0_ok
        have HGi0 := guard_info
        clear hok
        generalize rdE bs = E at *
        obtain ⟨Z0, hZ0⟩ : ∃ Z, nf0 = Z := ⟨_, rfl⟩
        have HZs : Hid (SumOk Z0.s) := Lib.hid (by rw [← hZ0]; exact sum0_ok)
        have HZb : Hid (Try.prog.built 26 [] = some (nfc Z0)) := Lib.hid (by rw [← hZ0]; exact built_zero)
        have HZc : Hid (Box (w5.alloc (.cells zC 26)) w5.heap.size 26 (nfc Z0)) := Lib.hid (by rw [← hZ0]; exact Box.new w5 _ _)
        rw [hZ0] at HN0 ⊢
        clear hZ0
        go_wp2_with (first
          | (refine wpList_store_info rfl (.tmp 9) (.tmp 44) rfl rfl w5.heap.size Z0 Z0 rfl rfl HZc.out HZs.out HZs.out ?_)
          | fail)
        intro u6 hB6 ho6
        have HB6 := Lib.hid hB6
        have HO6 := Lib.hid (HO5.out.then ho6 (fun i e => .inr (by rw [show i = _ from e]; exact hle5)))
        have HA6 := Lib.hid (HAw.out u6)
        clear hB6 ho6
        go_wp2_with (first
          | (refine wpList_load_info rfl (.tmp 9) rfl w5.heap.size Z0 rfl HB6.out HZs.out ?_)
          | (refine wpList_build_is rfl _ _ rfl (nfc Z0) (by simp; exact HZb.out) ?_)
          | fail)
        refine (HA6.out).mono ?_
        rintro e w9 ⟨rfl, o9⟩
        have HO9 := Lib.hid (HO6.out.trans o9)
        clear o9
        go_wp2
        go_ret
        exact ⟨rfl, HO9.out⟩
end Go.Proofs.Ytpgcaijanmpanaa
