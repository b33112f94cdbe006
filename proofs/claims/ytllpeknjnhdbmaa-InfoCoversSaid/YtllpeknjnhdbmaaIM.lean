/-
  InfoCovers: its walk.
-/
import Derived.Test.YtllpeknjnhdbmaaIM0
import Derived.Test.YtllpeknjnhdbmaaIL
namespace Go.Proofs.Ytllpeknjnhdbmaa
open Go.RowKit Go.Shelf

def CvRel (W : World) (l : List (Int × Int)) (s5 : Value) (wr : World) : Prop := ∃ k : Nat, k ≤ l.length ∧ s5 = iv k ∧ (∀ p ∈ l.take k, p.1 ≥ 16 ∧ p.1 ≤ 65534 ∧ p.2 ≤ 16777214) ∧ W = wr
set_option maxRecDepth 100000 in
set_option maxHeartbeats 16000000 in
theorem infoCovers_any {w : World} {v : Value} (r c d : Int) {l : List (Int × Int)} (hv : PSrc w v l) :
    Calls Try.prog 7 #[.agg #[iv r, iv c, iv d], v] w fun e w' => e = .returned (.bool true) ∧ Only Nix w w' := by
  obtain ⟨A, cc, rfl⟩ := hv.slice
  have hsm := hv.small
  have hcap := hv.cap
  obtain ⟨Z, hZ⟩ : ∃ Z, (zS.map byt).toArray = Z := ⟨_, rfl⟩
  have HZ := Lib.hid (built_sum0.trans (congrArg some hZ))
  have a1 := (Only.refl Nix w).alloc (.cells #[iv r, iv c, iv d] 23)
  have b1 := Box.new w 23 #[iv r, iv c, iv d]
  obtain ⟨W1, hW1⟩ : ∃ W1, w.alloc (.cells #[iv r, iv c, iv d] 23) = W1 := ⟨_, rfl⟩
  rw [hW1] at a1 b1
  have HO := Lib.hid a1
  have HB1 := Lib.hid b1
  have HV := Lib.hid (hv.nix a1)
  have HFw := Lib.hid (few_any HV.out)
  have HAw : Hid (∀ u, Calls Try.prog 13 #[] u fun e w' => e = .returned (.bool true) ∧ Only Nix u w') := Lib.hid awake_any
  clear a1 b1 hv
  by_cases hgo : Few l ∧ l.length ≠ 0
  · obtain ⟨hfew, hn0⟩ := hgo
    rw [decide_eq_true hfew] at HFw
    have h0 : l ≠ [] := fun e => hn0 (by rw [e]; rfl)
    have hlen : l.length ≤ 100 := hfew.2
    have hpos : 0 < l.length := by omega
    obtain ⟨ad, rfl, _, _⟩ := HV.out.at_ hpos
    have hn1 : ¬ ((l.length : Int) = 0) := by omega
    have hn2 : 1 ≤ l.length := by omega
    have HOf : Hid (∀ u, Only Nix W1 u → Calls Try.prog 21 #[.agg #[iv r, iv c, iv d], .agg Z, .slice (some ad) l.length cc] u fun e w' => OfR u (ofI r c d zS l) e w') := Lib.hid (fun u hu => by rw [← hZ]; exact of_any r c d sum0_ok (HV.out.nix hu) hfew.ok)
    have hb1 : ((l.length : Int) == 0) = false := by simp [h0]
    have hb2 : decide (l.length = 0) = false := by simp [h0]
    have hb3 : decide (l = []) = false := by simp [h0]
    have hb4 : (l == []) = false := by simp [h0]
    have HFew := Lib.hid hfew
    have H0 := Lib.hid h0
    clear hfew hn0 h0 hZ
    go_enter Try.func7, Try.ntmps7
    go_wp2_with fail
    refine (HFw.out).mono ?_
    rintro e w2 ⟨rfl, rfl⟩
    go_wp2
    go_loopw [5] (fun s5 wr => CvRel W1 l s5 wr) (fun s5 _ => l.length - (intOf s5).toNat)
    case atStart => exact ⟨0, Nat.zero_le _, rfl, by simp, rfl⟩
    case round =>
      obtain ⟨k, hk, rfl, hall, rfl⟩ := hrel
      have HAll := Lib.hid hall
      clear hall
      by_cases hlt : k < l.length
      · obtain ⟨ad', e, hx, hy⟩ := HV.out.at_ hlt
        injection e with e
        subst e
        have hlti : (k : Int) < (l.length : Int) := by omega
        have HT := Lib.hid (List.take_succ_eq_append_getElem hlt)
        generalize l[k] = p at *
        rcases (show p.1 < 16 ∨ (16 ≤ p.1 ∧ 65534 < p.1) ∨ (16 ≤ p.1 ∧ p.1 ≤ 65534 ∧ 16777214 < p.2) ∨ (16 ≤ p.1 ∧ p.1 ≤ 65534 ∧ p.2 ≤ 16777214) by omega) with h | ⟨h, h2⟩ | ⟨h, h2, h3⟩ | ⟨h, h2, h3⟩
        case inr.inr.inr =>
          have HOk : Hid (p.1 ≥ 16 ∧ p.1 ≤ 65534 ∧ p.2 ≤ 16777214) := Lib.hid ⟨h, h2, h3⟩
          go_wp2
          go_roundw
          case rel => exact ⟨k + 1, hlt, by go_num, fun q hq => by
            rw [HT.out] at hq
            rcases List.mem_append.1 hq with hq | hq
            · exact HAll.out q hq
            · simp at hq; subst hq; exact HOk.out, rfl⟩
          case measure => simp [intOf]; omega
        all_goals
          have HA2 := Lib.hid (HAw.out W1)
          go_wp2_with fail
          refine (HA2.out).mono ?_
          rintro e w3 ⟨rfl, o3⟩
          have HO3 := Lib.hid (HO.out.trans o3)
          clear o3
          go_wp2
          go_ret
          exact ⟨rfl, HO3.out⟩
      · have hlti : ¬ (k : Int) < (l.length : Int) := by omega
        have hd2 : decide (k < l.length) = false := by simp; omega
        have hS : ∀ p ∈ l, okS p := fun p hp => by
          have h1 := HAll.out p (by rw [List.take_of_length_le (by omega)]; exact hp)
          have h2 := HFew.out.1 p hp
          unfold ok1 at h2
          exact ⟨h1.1, h1.2.1, h2.2.2.1, h1.2.2⟩
        have hOk := HFew.out.ok
        have F1 := Lib.hid (cv_own (r := r) (c := c) (d := d) (s := zS) H0.out hS)
        have F2 := Lib.hid (cv_bare (r := r) (c := c) (d := d) (s := zS) H0.out hS)
        have F3 := Lib.hid (cv_more (r := r) (c := c) (d := d) (s := zS) (l := l))
        have F4 := Lib.hid (cv_fat (r := r) (c := c) (d := d) (s := zS) H0.out hS)
        have F5 : Hid (2 ≤ l.length → cvE (ofI r c d zS l) (l.take (l.length - 1)) = 22) := Lib.hid (cv_less (r := r) (c := c) (d := d) (s := zS) H0.out hS)
        obtain ⟨_, _, _, hb1, hb2, hb3, hb4⟩ := of_facts (r := r) (c := c) (d := d) (s := zS) H0.out hS
        have hXs : (ofI r c d zS l).s = zS := by unfold ofI; split <;> rfl
        have HXs : Hid (SumOk (ofI r c d zS l).s) := Lib.hid (by rw [hXs]; exact sum0_ok)
        have HOk := Lib.hid hOk
        have HF2 := Lib.hid HFew.out
        clear hS hOk HAll hXs
        generalize ofI r c d zS l = X at *
        obtain ⟨M1, hM1⟩ : ∃ z, X.xb + 1 = z := ⟨_, rfl⟩
        obtain ⟨N1, hN1⟩ : ∃ z, X.xf + 1 = z := ⟨_, rfl⟩
        obtain ⟨xb, hxb⟩ : ∃ z, X.xb = z := ⟨_, rfl⟩
        obtain ⟨xf, hxf⟩ : ∃ z, X.xf = z := ⟨_, rfl⟩
        rw [hM1] at F3
        rw [hN1] at F4
        have F3 := Lib.hid (F3.out xf)
        have F4 := Lib.hid (F4.out xb)
        have hOkM : Ok (l ++ [(M1, xf)]) := ⟨by simp; omega, fun p hp => by
          rcases List.mem_append.1 hp with hp | hp
          · exact HOk.out.2 p hp
          · simp at hp; subst hp; exact ⟨by omega, by omega, by omega, by omega⟩⟩
        have hOkN : Ok (l ++ [(xb, N1)]) := ⟨by simp; omega, fun p hp => by
          rcases List.mem_append.1 hp with hp | hp
          · exact HOk.out.2 p hp
          · simp at hp; subst hp; exact ⟨by omega, by omega, by omega, by omega⟩⟩
        have hM1' : i64 M1 ∧ i64 xf ∧ i64 xb ∧ i64 N1 := ⟨by constructor <;> omega, by constructor <;> omega, by constructor <;> omega, by constructor <;> omega⟩
        have HI64 := Lib.hid hM1'
        have HM1 : Hid (∀ q ∈ l ++ [(M1, xf)], i64 q.1 ∧ i64 q.2) := Lib.hid (fun q hq => by
          have := hOkM.2 q hq
          exact ⟨by constructor <;> omega, by constructor <;> omega⟩)
        have HN1 : Hid (∀ q ∈ l ++ [(xb, N1)], i64 q.1 ∧ i64 q.2) := Lib.hid (fun q hq => by
          have := hOkN.2 q hq
          exact ⟨by constructor <;> omega, by constructor <;> omega⟩)
        have HOM := Lib.hid hOkM
        have HON := Lib.hid hOkN
        have hwM : wrap64 (xb + 1) = xb + 1 := w64 _ (by omega) (by omega)
        have hwN : wrap64 (xf + 1) = xf + 1 := w64 _ (by omega) (by omega)
        rw [hxb] at hM1
        rw [hxf] at hN1
        have HMe := Lib.hid hM1
        have HNe := Lib.hid hN1
        have Hxb := Lib.hid hxb
        have Hxf := Lib.hid hxf
        clear hOkM hOkN hM1' hM1 hN1 hxb hxf HF2
        go_wp2_with (first
          | (refine wpList_load_row rfl 23 (.tmp 2) rfl w.heap.size rfl 23 _ (0, 0) _ HB1.out Try.underlying23 rfl Try.size_params ?_)
          | (refine wpList_build_is rfl _ _ rfl Z (by simp; exact HZ.out) ?_)
          | fail)
        refine (HOf.out W1 (Only.refl _ _)).mono ?_
        rintro e w3 ⟨rfl, o3⟩
        have HO3 := Lib.hid (o3.alloc (.cells zC 26))
        have hle3 : W1.heap.size ≤ w3.heap.size := o3.size
        clear o3
        go_wp2_with (first
          | (refine wpList_store_info rfl (.tmp 6) (.tmp 58) rfl rfl w3.heap.size X nf0 rfl rfl (Box.new w3 _ _) HXs.out sum0_ok ?_)
          | fail)
        intro U1 hB1 ho1
        have HB6 := Lib.hid hB1
        have HOU1 := Lib.hid (HO3.out.then ho1 (fun i e => .inr (by cases e; exact hle3)))
        have hleU1 : W1.heap.size ≤ U1.heap.size := HOU1.out.size
        have hne1 : w3.heap.size ≠ U1.heap.size := by have := hB1.lt; omega
        have HB6a := Lib.hid (hB1.alloc (.cells zC 26))
        have HOa := Lib.hid (HOU1.out.alloc (.cells zC 26))
        clear hB1 ho1
        go_wp2_with (first
          | (refine wpList_load_info rfl (.tmp 6) rfl w3.heap.size X rfl HB6.out HXs.out ?_)
          | (refine wpList_store_info rfl (.tmp 7) (.tmp 59) rfl rfl U1.heap.size X nf0 rfl rfl (Box.new U1 _ _) HXs.out sum0_ok ?_)
          | fail)
        intro U2 hB2 ho2
        have h6 := HB6a.out.only ho2 (fun e => hne1 e)
        have hO2 := HOa.out.then ho2 (fun i e => .inr (by cases e; exact hleU1))
        have hc5 := (hB2.cell 5).trans (nfc_5 _)
        have hf5 := hB2.frozen 5
        have hc6 : (U2.setCell ⟨U1.heap.size, 5, none⟩ (iv 0)).cell? ⟨U1.heap.size, 6, none⟩ = some (iv X.xf) := (hB2.put 5 (iv 0)).cell 6
        have hf6 := (hB2.put 5 (iv 0)).frozen 6
        have hc7 : ((U2.setCell ⟨U1.heap.size, 5, none⟩ (iv 0)).setCell ⟨U1.heap.size, 6, none⟩ (iv 0)).cell? ⟨U1.heap.size, 7, none⟩ = some (iv X.t) := ((hB2.put 5 (iv 0)).put 6 (iv 0)).cell 7
        have hf7 := ((hB2.put 5 (iv 0)).put 6 (iv 0)).frozen 7
        have hB7 := ((hB2.put 5 (iv 0)).put 6 (iv 0)).put 7 (iv 0)
        have h6' := ((h6.off (p := ⟨U1.heap.size, 5, none⟩) hne1 (iv 0)).off (p := ⟨U1.heap.size, 6, none⟩) hne1 (iv 0)).off (p := ⟨U1.heap.size, 7, none⟩) hne1 (iv 0)
        have hO3' := ((hO2.setCell (p := ⟨U1.heap.size, 5, none⟩) (.inr hleU1) (iv 0)).setCell (p := ⟨U1.heap.size, 6, none⟩) (.inr hleU1) (iv 0)).setCell (p := ⟨U1.heap.size, 7, none⟩) (.inr hleU1) (iv 0)
        obtain ⟨V1, hV1⟩ : ∃ V, U2.setCell ⟨U1.heap.size, 5, none⟩ (iv 0) = V := ⟨_, rfl⟩
        rw [hV1] at hc6 hf6 hc7 hf7 hB7 h6' hO3'
        obtain ⟨V2, hV2⟩ : ∃ V, V1.setCell ⟨U1.heap.size, 6, none⟩ (iv 0) = V := ⟨_, rfl⟩
        rw [hV2] at hc7 hf7 hB7 h6' hO3'
        obtain ⟨V3, hV3⟩ : ∃ V, V2.setCell ⟨U1.heap.size, 7, none⟩ (iv 0) = V := ⟨_, rfl⟩
        rw [hV3] at hB7 h6' hO3'
        have HB7 := Lib.hid (show Box V3 U1.heap.size 26 (nfc (bare X)) from hB7)
        have HB6' := Lib.hid h6'
        have HOV := Lib.hid hO3'
        clear h6 hO2 hB7 h6' hO3' hB2 ho2
        go_wp2_with (at_builtin; refine app_pieces rfl (.tmp 63) (.tmp 64) rfl rfl (OwnsP.nil V3 W1.heap.size) ad l.length cc l rfl (HV.out.nix HOV.out) ?n1 ?base1 ?rest1)
        case n1 => simp; omega
        case base1 => exact HOV.out.size
        case rest1 =>
          intro v8 w4 r4 g4 m4
          have hO4 : Only Nix W1 w4 := HOV.out.grew g4 (fun g hg => by simp [Value.ownBlock] at hg)
          have hB64 := HB6'.out.grown g4 (by simp [Value.ownBlock])
          have hB74 := HB7.out.grown g4 (by simp [Value.ownBlock])
          have r4 : OwnsP w4 W1.heap.size v8 l := r4
          have HP4 := Lib.hid r4
          have HO4 := Lib.hid hO4
          have HB64 := Lib.hid hB64
          have HB74 := Lib.hid hB74
          have q2 : w4.cell? ⟨w3.heap.size, 4, none⟩ = some (iv xb) := by rw [← Hxb.out]; exact (hB64.cell 4).trans (nfc_4 X)
          have q4 : w4.cell? ⟨w3.heap.size, 6, none⟩ = some (iv xf) := by rw [← Hxf.out]; exact (hB64.cell 6).trans (nfc_6 X)
          clear r4 g4 m4 hO4 hB64 hB74 hc5 hf5 hc6 hf6 hc7 hf7 hV1 hV2 hV3
          go_wp2_with (at_builtin; refine app_pieces rfl (.tmp 66) (.tmp 73) rfl rfl (v := v8) (base := W1.heap.size) (ps := l) ?own2 ⟨w4.heap.size, 0, none⟩ 1 1 [(M1, xf)] rfl ?src2 ?n2 ?base2 ?rest2)
          case own2 => exact World.ownsRow.alloc HP4.out _
          case src2 => rw [HMe.out]; exact one_piece w4 M1 xf HI64.out.1 HI64.out.2.1
          case n2 => omega
          case base2 => have := HO4.out.size; simp; omega
          case rest2 =>
            intro v9 w5 r5 g5 m5
            have hO5 : Only Nix W1 w5 := (HO4.out.alloc _).grew g5 (fun g hg => (World.ownsRow.lt HP4.out g hg).1)
            have hne : ∀ b, b < w4.heap.size → b = w3.heap.size ∨ b = U1.heap.size → v8.ownBlock ≠ some b := fun b _ hb e => by
              have h1 := owns_box HP4.out HB64.out (by decide)
              have h2 := owns_box HP4.out HB74.out (by decide)
              rcases hb with rfl | rfl
              · exact h1 e
              · exact h2 e
            have HB65 := Lib.hid ((HB64.out.alloc _).grown g5 (hne _ HB64.out.lt (.inl rfl)))
            have HB75 := Lib.hid ((HB74.out.alloc _).grown g5 (hne _ HB74.out.lt (.inr rfl)))
            have HP5 := Lib.hid r5
            have HO5 := Lib.hid hO5
            clear r5 g5 hO5 hne q2 q4
            go_wp2_with (at_builtin; refine app_pieces rfl (.tmp 75) (.tmp 76) rfl rfl (OwnsP.nil w5 W1.heap.size) ad l.length cc l rfl (HV.out.nix HO5.out) ?n3 ?base3 ?rest3)
            case n3 => simp; omega
            case base3 => exact HO5.out.size
            case rest3 =>
              intro v10 w6 r6 g6 m6
              have hO6 : Only Nix W1 w6 := HO5.out.grew g6 (fun g hg => by simp [Value.ownBlock] at hg)
              have hB66 := HB65.out.grown g6 (by simp [Value.ownBlock])
              have hB76 := HB75.out.grown g6 (by simp [Value.ownBlock])
              have hP6 : OwnsP w6 W1.heap.size v9 (l ++ [(M1, xf)]) := owns_only HP5.out (Only.grown (Only.refl Nix w5) g6 (fun k hk => by simp [Value.ownBlock] at hk)) (fun _ _ e => e)
              have r6 : OwnsP w6 W1.heap.size v10 l := r6
              have HQ6 := Lib.hid r6
              have HP6 := Lib.hid hP6
              have HO6 := Lib.hid hO6
              have HB66 := Lib.hid hB66
              have HB76 := Lib.hid hB76
              have hdis : Apart2 v10 v9 := by
                intro g hg e
                rcases m6 with m6 | m6
                · rw [m6] at hg; simp [Value.ownBlock] at hg
                · rw [m6] at hg
                  injection hg with hg
                  have := (World.ownsRow.lt HP5.out g e).2
                  omega
              have HD := Lib.hid hdis
              have q2 : w6.cell? ⟨w3.heap.size, 4, none⟩ = some (iv xb) := by rw [← Hxb.out]; exact (hB66.cell 4).trans (nfc_4 X)
              have q4 : w6.cell? ⟨w3.heap.size, 6, none⟩ = some (iv xf) := by rw [← Hxf.out]; exact (hB66.cell 6).trans (nfc_6 X)
              clear r6 g6 m6 hO6 hB66 hB76 hP6 hdis
              go_wp2_with (at_builtin; refine app_pieces rfl (.tmp 78) (.tmp 85) rfl rfl (v := v10) (base := W1.heap.size) (ps := l) ?own4 ⟨w6.heap.size, 0, none⟩ 1 1 [(xb, N1)] rfl ?src4 ?n4 ?base4 ?rest4)
              case own4 => exact World.ownsRow.alloc HQ6.out _
              case src4 => rw [HNe.out]; exact one_piece w6 xb N1 HI64.out.2.2.1 HI64.out.2.2.2
              case n4 => omega
              case base4 => have := HO6.out.size; simp; omega
              case rest4 =>
                intro v11 w7 r7 g7 m7
                have hO7 : Only Nix W1 w7 := (HO6.out.alloc _).grew g7 (fun g hg => (World.ownsRow.lt HQ6.out g hg).1)
                have h1 := owns_box HQ6.out HB66.out (by decide)
                have h2 := owns_box HQ6.out HB76.out (by decide)
                have HB67 := Lib.hid ((HB66.out.alloc _).grown g7 h1)
                have HB77 := Lib.hid ((HB76.out.alloc _).grown g7 h2)
                have hP7 : OwnsP w7 W1.heap.size v9 (l ++ [(M1, xf)]) := by
                  have := World.ownsRow.alloc HP6.out (.cells #[iv xb, iv N1] 49)
                  refine ⟨this.1, ?_⟩
                  rcases this.2 with hn | ⟨g, cap, cur, rfl, hb, hgg, rest⟩
                  · exact .inl hn
                  · refine .inr ⟨g, cap, cur, rfl, hb, ?_, rest⟩
                    rw [HNe.out] at g7
                    rw [g7.block g (Array.getElem?_eq_some_iff.1 hgg).1 (fun e => HD.out g e.symm rfl)]
                    exact hgg
                have sM := hP7.psrc (by simp; omega) HM1.out
                have sN := OwnsP.psrc r7 (by simp; omega) HN1.out
                obtain ⟨A9, c9, e9⟩ := sM.slice
                obtain ⟨A11, c11, e11⟩ := sN.slice
                have HC1 : Hid (∀ u, Only Nix w7 u → Calls Try.prog 22 #[.agg (nfc X), .slice (some ad) l.length cc] u fun e w' => e = .returned (iv 0) ∧ Only Nix u w') := Lib.hid (fun u hu => by rw [← F1.out]; exact covers_any X HXs.out (HV.out.nix (hO7.trans hu)) HOk.out)
                have HC2 : Hid (∀ u, Only Nix w7 u → Calls Try.prog 22 #[.agg (nfc (bare X)), .slice (some ad) l.length cc] u fun e w' => e = .returned (iv 0) ∧ Only Nix u w') := Lib.hid (fun u hu => by rw [← F2.out]; exact covers_any (bare X) HXs.out (HV.out.nix (hO7.trans hu)) HOk.out)
                have HC3 : Hid (∀ u, Only Nix w7 u → Calls Try.prog 22 #[.agg (nfc (bare X)), v9] u fun e w' => e = .returned (iv 22) ∧ Only Nix u w') := Lib.hid (fun u hu => by rw [← F3.out]; exact covers_any (bare X) HXs.out (sM.nix hu) HOM.out)
                have HC4 : Hid (∀ u, Only Nix w7 u → Calls Try.prog 22 #[.agg (nfc X), v11] u fun e w' => e = .returned (iv 22) ∧ Only Nix u w') := Lib.hid (fun u hu => by rw [← F4.out]; exact covers_any X HXs.out (sN.nix hu) HON.out)
                have HO7 := Lib.hid hO7
                clear r7 g7 m7 hO7 h1 h2 hP7 sM sN q2 q4 e9 e11 m5
                go_wp2_with (first
                  | (refine wpList_load_info rfl (.tmp 6) rfl w3.heap.size X rfl HB67.out HXs.out ?_)
                  | fail)
                refine (HC1.out w7 (Only.refl _ _)).mono ?_
                rintro e w8 ⟨rfl, o8⟩
                have HO8 := Lib.hid o8
                have HB78 := Lib.hid (HB77.out.only o8 (fun e => e))
                clear o8
                go_wp2_with (first
                  | (refine wpList_load_info_g 4 91 false rfl rfl rfl (.tmp 7) rfl U1.heap.size (bare X) rfl HB78.out HXs.out ?_)
                  | fail)
                refine (HC2.out w8 HO8.out).mono ?_
                rintro e w9 ⟨rfl, o9⟩
                have HO9 := Lib.hid (HO8.out.trans o9)
                have HB79 := Lib.hid (HB77.out.only HO9.out (fun e => e))
                clear o9
                go_wp2_with (first
                  | (refine wpList_load_info_g 10 97 false rfl rfl rfl (.tmp 7) rfl U1.heap.size (bare X) rfl HB79.out HXs.out ?_)
                  | fail)
                refine (HC3.out w9 HO9.out).mono ?_
                rintro e w10 ⟨rfl, o10⟩
                have HO10 := Lib.hid (HO9.out.trans o10)
                have HB610 := Lib.hid (HB67.out.only HO10.out (fun e => e))
                clear o10
                go_wp2_with (first
                  | (refine wpList_load_info_g 16 103 false rfl rfl rfl (.tmp 6) rfl w3.heap.size X rfl HB610.out HXs.out ?_)
                  | fail)
                refine (HC4.out w10 HO10.out).mono ?_
                rintro e w11 ⟨rfl, o11⟩
                have HO11 := Lib.hid (HO10.out.trans o11)
                have HB611 := Lib.hid (HB67.out.only HO11.out (fun e => e))
                have HOW := Lib.hid (HO7.out.trans HO11.out)
                clear o11
                obtain ⟨m, hm⟩ : ∃ m, l.length - 1 = m := ⟨_, rfl⟩
                have hmi : (l.length : Int) - 1 = (m : Int) := by omega
                have hmn : m ≤ l.length := by omega
                have hmc : m ≤ cc := by omega
                have HC5 : Hid (2 ≤ l.length → ∀ u, Only Nix w11 u → Calls Try.prog 22 #[.agg (nfc X), .slice (some ad) m cc] u fun e w' => e = .returned (iv 22) ∧ Only Nix u w') := Lib.hid (fun h2 u hu => by
                  have := covers_any X HXs.out ((HV.out.take m cc hmn hmc).nix (HOW.out.trans hu)) (HOk.out.take m)
                  rw [← hm, F5.out h2, hm] at this
                  exact this)
                have hwm : wrap64 ((l.length : Int) - 1) = (m : Int) := by rw [← hmi]; exact w64 _ (by omega) (by omega)
                clear HC1 HC2 HC3 HC4 F1 F2 F3 F4 F5 HP4 HP5 HP6 HQ6 hm
                by_cases h2 : l.length < 2
                · have h2i : (l.length : Int) < 2 := by omega
                  go_wp2_with fail
                  have fr_A : ∀ j s, j < 17 → (([some 109, some 110, some 111, some 112, some 113, some 114, some 115, some 116, some 117, some 118, some 119, some 120, some 121, some 122, some 123, some 124, some 4] : List (Option Nat)).all fun d => d != some s) = true → ([some 109, some 110, some 111, some 112, some 113, some 114, some 115, some 116, some 117, some 118, some 119, some 120, some 121, some 122, some 123, some 124, some 4] : List (Option Nat)).getD j none ≠ some s := by
                    intro j s hj ha e
                    rw [List.getD_eq_getElem?_getD, List.getElem?_eq_getElem (by exact hj), Option.getD_some] at e
                    have := List.all_eq_true.1 ha _ (List.getElem_mem (by exact hj))
                    rw [e] at this
                    simp at this
                  refine region_tel (by kernel_rfl) (fun k0 => ([some 109, some 110, some 111, some 112, some 113, some 114, some 115, some 116, some 117, some 118, some 119, some 120, some 121, some 122, some 123, some 124, some 4] : List (Option Nat)).getD k0 none) (PL [eqP (.slice (some ad) l.length cc), eqP (iv l.length), eqP (.bool true), eqP (.bool true), eqP (undef), eqP (undef), eqP (undef), eqP (undef), eqP (undef), eqP (undef), eqP (undef), eqP (undef), eqP (.bool true), eqP (.bool true), eqP (.bool true), eqP (.bool true), eqP (.bool true)]) (fun _ _ => True) (fun _ u => Only Nix w11 u) 125 17 rfl (by kernel_rfl) (by kernel_rfl) rfl (by kernel_rfl) (by kernel_rfl) (stab_all ⟨fun _ _ _ h _ => h, fun _ _ _ h _ => h, fun _ _ _ h _ => h, fun _ _ _ h _ => h, fun _ _ _ h _ => h, fun _ _ _ h _ => h, fun _ _ _ h _ => h, fun _ _ _ h _ => h, fun _ _ _ h _ => h, fun _ _ _ h _ => h, fun _ _ _ h _ => h, fun _ _ _ h _ => h, fun _ _ _ h _ => h, fun _ _ _ h _ => h, fun _ _ _ h _ => h, fun _ _ _ h _ => h, fun _ _ _ h _ => h, trivial⟩) ((Only.refl _ _).drew) ?stepsA (fun vs => [(109, vs 0), (110, vs 1), (111, vs 2), (112, vs 3), (113, vs 4), (114, vs 5), (115, vs 6), (116, vs 7), (117, vs 8), (118, vs 9), (119, vs 10), (120, vs 11), (121, vs 12), (122, vs 13), (123, vs 14), (124, vs 15), (4, vs 16)]) (fun vs => rfl) ?doneA
                  case stepsA =>
                    refine ⟨?_, ?_, ?_, ?_, ?_, ?_, ?_, ?_, ?_, ?_, ?_, ?_, ?_, ?_, ?_, ?_, ?_, trivial⟩
                    · intro L vs A' u hW hL0 hnd K' hK
                      have hS := hW.wi.s
                      have r1 : A'.tmps[1]? = some (.slice (some ad) l.length cc) := (hW.out 1 (fun j hj => fr_A j 1 hj (by kernel_rfl))).trans rfl
                      go_simp
                      exact hK _ _ (by first | rfl | (show _ = _; simp)) trivial (hS)
                    · intro L vs A' u hW hL0 hnd K' hK
                      have hS := hW.wi.s
                      have r109 : A'.tmps[109]? = some (.slice (some ad) l.length cc) := by
                        obtain ⟨x, e, h⟩ := hW.tel 0 109 (by decide) (hnd 0 (by kernel_rfl)) rfl
                        rw [e]; exact congrArg some h
                      go_simp
                      exact hK _ _ (by first | rfl | (show _ = _; simp)) trivial (hS)
                    · intro L vs A' u hW hL0 hnd K' hK
                      have hS := hW.wi.s
                      have r110 : A'.tmps[110]? = some (iv l.length) := by
                        obtain ⟨x, e, h⟩ := hW.tel 1 110 (by decide) (hnd 1 (by kernel_rfl)) rfl
                        rw [e]; exact congrArg some h
                      go_simp
                      exact hK _ _ (by first | rfl | (show _ = _; simp)) trivial (hS)
                    · intro L vs A' u hW hL0 hnd K' hK
                      have hS := hW.wi.s
                      have r111 : A'.tmps[111]? = some (.bool true) := by
                        obtain ⟨x, e, h⟩ := hW.tel 2 111 (by decide) (hnd 2 (by kernel_rfl)) rfl
                        rw [e]; exact congrArg some h
                      go_simp
                      exact hK _ _ (by first | rfl | (show _ = _; simp)) trivial (hS)
                    · intro L vs A' u hW hL0 hnd K' hK
                      have hS := hW.wi.s
                      have r112 : A'.tmps[112]? = some (.bool true) := by
                        obtain ⟨x, e, h⟩ := hW.tel 3 112 (by decide) (hnd 3 (by kernel_rfl)) rfl
                        rw [e]; exact congrArg some h
                      rw [if_neg (wanted_no (j := 3) (s := 112) (b := false) rfl (by kernel_rfl) r112)]
                      exact hK _ _ rfl trivial (hS)
                    · intro L vs A' u hW hL0 hnd K' hK
                      have hS := hW.wi.s
                      have r112 : A'.tmps[112]? = some (.bool true) := by
                        obtain ⟨x, e, h⟩ := hW.tel 3 112 (by decide) (hnd 3 (by kernel_rfl)) rfl
                        rw [e]; exact congrArg some h
                      rw [if_neg (wanted_no (j := 3) (s := 112) (b := false) rfl (by kernel_rfl) r112)]
                      exact hK _ _ rfl trivial (hS)
                    · intro L vs A' u hW hL0 hnd K' hK
                      have hS := hW.wi.s
                      have r112 : A'.tmps[112]? = some (.bool true) := by
                        obtain ⟨x, e, h⟩ := hW.tel 3 112 (by decide) (hnd 3 (by kernel_rfl)) rfl
                        rw [e]; exact congrArg some h
                      rw [if_neg (wanted_no (j := 3) (s := 112) (b := false) rfl (by kernel_rfl) r112)]
                      exact hK _ _ rfl trivial (hS)
                    · intro L vs A' u hW hL0 hnd K' hK
                      have hS := hW.wi.s
                      have r112 : A'.tmps[112]? = some (.bool true) := by
                        obtain ⟨x, e, h⟩ := hW.tel 3 112 (by decide) (hnd 3 (by kernel_rfl)) rfl
                        rw [e]; exact congrArg some h
                      rw [if_neg (wanted_no (j := 3) (s := 112) (b := false) rfl (by kernel_rfl) r112)]
                      exact hK _ _ rfl trivial (hS)
                    · intro L vs A' u hW hL0 hnd K' hK
                      have hS := hW.wi.s
                      have r112 : A'.tmps[112]? = some (.bool true) := by
                        obtain ⟨x, e, h⟩ := hW.tel 3 112 (by decide) (hnd 3 (by kernel_rfl)) rfl
                        rw [e]; exact congrArg some h
                      rw [if_neg (wanted_no (j := 3) (s := 112) (b := false) rfl (by kernel_rfl) r112)]
                      exact hK _ _ rfl trivial (hS)
                    · intro L vs A' u hW hL0 hnd K' hK
                      have hS := hW.wi.s
                      have r112 : A'.tmps[112]? = some (.bool true) := by
                        obtain ⟨x, e, h⟩ := hW.tel 3 112 (by decide) (hnd 3 (by kernel_rfl)) rfl
                        rw [e]; exact congrArg some h
                      rw [if_neg (wanted_no (j := 3) (s := 112) (b := false) rfl (by kernel_rfl) r112)]
                      exact hK _ _ rfl trivial (hS)
                    · intro L vs A' u hW hL0 hnd K' hK
                      have hS := hW.wi.s
                      have r112 : A'.tmps[112]? = some (.bool true) := by
                        obtain ⟨x, e, h⟩ := hW.tel 3 112 (by decide) (hnd 3 (by kernel_rfl)) rfl
                        rw [e]; exact congrArg some h
                      rw [if_neg (wanted_no (j := 3) (s := 112) (b := false) rfl (by kernel_rfl) r112)]
                      exact hK _ _ rfl trivial (hS)
                    · intro L vs A' u hW hL0 hnd K' hK
                      have hS := hW.wi.s
                      have r112 : A'.tmps[112]? = some (.bool true) := by
                        obtain ⟨x, e, h⟩ := hW.tel 3 112 (by decide) (hnd 3 (by kernel_rfl)) rfl
                        rw [e]; exact congrArg some h
                      rw [if_neg (wanted_no (j := 3) (s := 112) (b := false) rfl (by kernel_rfl) r112)]
                      exact hK _ _ rfl trivial (hS)
                    · intro L vs A' u hW hL0 hnd K' hK
                      have hS := hW.wi.s
                      have r112 : A'.tmps[112]? = some (.bool true) := by
                        obtain ⟨x, e, h⟩ := hW.tel 3 112 (by decide) (hnd 3 (by kernel_rfl)) rfl
                        rw [e]; exact congrArg some h
                      have r120 : A'.tmps[120]? = some (undef) := by
                        obtain ⟨x, e, h⟩ := hW.tel 11 120 (by decide) (hnd 11 (by kernel_rfl)) rfl
                        rw [e]; exact congrArg some h
                      go_simp
                      exact hK _ _ (by first | rfl | (show _ = _; simp)) trivial (hS)
                    · intro L vs A' u hW hL0 hnd K' hK
                      have hS := hW.wi.s
                      have r121 : A'.tmps[121]? = some (.bool true) := by
                        obtain ⟨x, e, h⟩ := hW.tel 12 121 (by decide) (hnd 12 (by kernel_rfl)) rfl
                        rw [e]; exact congrArg some h
                      go_simp
                      exact hK _ _ (by first | rfl | (show _ = _; simp)) trivial (hS)
                    · intro L vs A' u hW hL0 hnd K' hK
                      have hS := hW.wi.s
                      have r122 : A'.tmps[122]? = some (.bool true) := by
                        obtain ⟨x, e, h⟩ := hW.tel 13 122 (by decide) (hnd 13 (by kernel_rfl)) rfl
                        rw [e]; exact congrArg some h
                      rw [if_pos (wanted_yes (j := 13) (s := 122) (b := true) rfl (by kernel_rfl) r122)]
                      have HCL := Lib.hid (HAw.out u)
                      go_simp
                      refine (HCL.out).mono ?_
                      rintro _ u' ⟨rfl, ho2⟩
                      exact hK _ _ rfl trivial (hS.trans ho2)
                    · intro L vs A' u hW hL0 hnd K' hK
                      have hS := hW.wi.s
                      have r122 : A'.tmps[122]? = some (.bool true) := by
                        obtain ⟨x, e, h⟩ := hW.tel 13 122 (by decide) (hnd 13 (by kernel_rfl)) rfl
                        rw [e]; exact congrArg some h
                      have r123 : A'.tmps[123]? = some (.bool true) := by
                        obtain ⟨x, e, h⟩ := hW.tel 14 123 (by decide) (hnd 14 (by kernel_rfl)) rfl
                        rw [e]; exact congrArg some h
                      go_simp
                      exact hK _ _ (by first | rfl | (show _ = _; simp)) trivial (hS)
                    · intro L vs A' u hW hL0 hnd K' hK
                      have hS := hW.wi.s
                      have r124 : A'.tmps[124]? = some (.bool true) := by
                        obtain ⟨x, e, h⟩ := hW.tel 15 124 (by decide) (hnd 15 (by kernel_rfl)) rfl
                        rw [e]; exact congrArg some h
                      go_simp
                      exact hK _ _ (by first | rfl | (show _ = _; simp)) trivial (hS)
                  case doneA =>
                    intro L vs u9 hS hP hall
                    have e0 : vs 0 = .slice (some ad) l.length cc := hP 0 (by decide)
                    have e1 : vs 1 = iv l.length := hP 1 (by decide)
                    have e2 : vs 2 = .bool true := hP 2 (by decide)
                    have e3 : vs 3 = .bool true := hP 3 (by decide)
                    have e4 : vs 4 = undef := hP 4 (by decide)
                    have e5 : vs 5 = undef := hP 5 (by decide)
                    have e6 : vs 6 = undef := hP 6 (by decide)
                    have e7 : vs 7 = undef := hP 7 (by decide)
                    have e8 : vs 8 = undef := hP 8 (by decide)
                    have e9 : vs 9 = undef := hP 9 (by decide)
                    have e10 : vs 10 = undef := hP 10 (by decide)
                    have e11 : vs 11 = undef := hP 11 (by decide)
                    have e12 : vs 12 = .bool true := hP 12 (by decide)
                    have e13 : vs 13 = .bool true := hP 13 (by decide)
                    have e14 : vs 14 = .bool true := hP 14 (by decide)
                    have e15 : vs 15 = .bool true := hP 15 (by decide)
                    have e16 : vs 16 = .bool true := hP 16 (by decide)
                    simp only [putV, List.foldl_cons, List.foldl_nil, List.setIfInBounds_toArray, List.set_cons_zero, List.set_cons_succ, e0, e1, e2, e3, e4, e5, e6, e7, e8, e9, e10, e11, e12, e13, e14, e15, e16]
                    have XS := Lib.hid hS
                    clear hS e0 e1 e2 e3 e4 e5 e6 e7 e8 e9 e10 e11 e12 e13 e14 e15 e16 hP hall fr_A
                    go_wp2
                    go_ret
                    exact ⟨rfl, HO.out.trans (HOW.out.trans XS.out)⟩
                · have h2i : ¬ (l.length : Int) < 2 := by omega
                  have HC6 := Lib.hid (HC5.out (by omega))
                  go_wp2_with fail
                  have fr_B : ∀ j s, j < 17 → (([some 109, some 110, some 111, some 112, some 113, some 114, some 115, some 116, some 117, some 118, some 119, some 120, some 121, some 122, some 123, some 124, some 4] : List (Option Nat)).all fun d => d != some s) = true → ([some 109, some 110, some 111, some 112, some 113, some 114, some 115, some 116, some 117, some 118, some 119, some 120, some 121, some 122, some 123, some 124, some 4] : List (Option Nat)).getD j none ≠ some s := by
                    intro j s hj ha e
                    rw [List.getD_eq_getElem?_getD, List.getElem?_eq_getElem (by exact hj), Option.getD_some] at e
                    have := List.all_eq_true.1 ha _ (List.getElem_mem (by exact hj))
                    rw [e] at this
                    simp at this
                  refine region_tel (by kernel_rfl) (fun k0 => ([some 109, some 110, some 111, some 112, some 113, some 114, some 115, some 116, some 117, some 118, some 119, some 120, some 121, some 122, some 123, some 124, some 4] : List (Option Nat)).getD k0 none) (PL [eqP (.slice (some ad) l.length cc), eqP (iv l.length), eqP (.bool false), eqP (.bool false), eqP (.agg (nfc X)), eqP (.slice (some ad) l.length cc), eqP (.slice (some ad) l.length cc), eqP (iv l.length), eqP (iv m), eqP (.slice (some ad) m cc), eqP (iv 22), eqP (.bool true), eqP (.bool true), eqP (.bool true), eqP (.bool true), eqP (.bool true), eqP (.bool true)]) (fun _ _ => True) (fun _ u => Only Nix w11 u) 125 17 rfl (by kernel_rfl) (by kernel_rfl) rfl (by kernel_rfl) (by kernel_rfl) (stab_all ⟨fun _ _ _ h _ => h, fun _ _ _ h _ => h, fun _ _ _ h _ => h, fun _ _ _ h _ => h, fun _ _ _ h _ => h, fun _ _ _ h _ => h, fun _ _ _ h _ => h, fun _ _ _ h _ => h, fun _ _ _ h _ => h, fun _ _ _ h _ => h, fun _ _ _ h _ => h, fun _ _ _ h _ => h, fun _ _ _ h _ => h, fun _ _ _ h _ => h, fun _ _ _ h _ => h, fun _ _ _ h _ => h, fun _ _ _ h _ => h, trivial⟩) ((Only.refl _ _).drew) ?stepsB (fun vs => [(109, vs 0), (110, vs 1), (111, vs 2), (112, vs 3), (113, vs 4), (114, vs 5), (115, vs 6), (116, vs 7), (117, vs 8), (118, vs 9), (119, vs 10), (120, vs 11), (121, vs 12), (122, vs 13), (123, vs 14), (124, vs 15), (4, vs 16)]) (fun vs => rfl) ?doneB
                  case stepsB =>
                    refine ⟨?_, ?_, ?_, ?_, ?_, ?_, ?_, ?_, ?_, ?_, ?_, ?_, ?_, ?_, ?_, ?_, ?_, trivial⟩
                    · intro L vs A' u hW hL0 hnd K' hK
                      have hS := hW.wi.s
                      have r1 : A'.tmps[1]? = some (.slice (some ad) l.length cc) := (hW.out 1 (fun j hj => fr_B j 1 hj (by kernel_rfl))).trans rfl
                      go_simp
                      exact hK _ _ (by first | rfl | (show _ = _; simp)) trivial (hS)
                    · intro L vs A' u hW hL0 hnd K' hK
                      have hS := hW.wi.s
                      have r109 : A'.tmps[109]? = some (.slice (some ad) l.length cc) := by
                        obtain ⟨x, e, h⟩ := hW.tel 0 109 (by decide) (hnd 0 (by kernel_rfl)) rfl
                        rw [e]; exact congrArg some h
                      go_simp
                      exact hK _ _ (by first | rfl | (show _ = _; simp)) trivial (hS)
                    · intro L vs A' u hW hL0 hnd K' hK
                      have hS := hW.wi.s
                      have r110 : A'.tmps[110]? = some (iv l.length) := by
                        obtain ⟨x, e, h⟩ := hW.tel 1 110 (by decide) (hnd 1 (by kernel_rfl)) rfl
                        rw [e]; exact congrArg some h
                      go_simp
                      exact hK _ _ (by first | rfl | (show Value.bool _ = Value.bool _; refine congrArg _ ?_; rw [decide_eq_false_iff_not]; omega)) trivial hS
                    · intro L vs A' u hW hL0 hnd K' hK
                      have hS := hW.wi.s
                      have r111 : A'.tmps[111]? = some (.bool false) := by
                        obtain ⟨x, e, h⟩ := hW.tel 2 111 (by decide) (hnd 2 (by kernel_rfl)) rfl
                        rw [e]; exact congrArg some h
                      go_simp
                      exact hK _ _ (by first | rfl | (show _ = _; simp)) trivial (hS)
                    · intro L vs A' u hW hL0 hnd K' hK
                      have hS := hW.wi.s
                      have r6 : A'.tmps[6]? = some (.pointer (some ⟨w3.heap.size, 0, none⟩)) := (hW.out 6 (fun j hj => fr_B j 6 hj (by kernel_rfl))).trans rfl
                      have r112 : A'.tmps[112]? = some (.bool false) := by
                        obtain ⟨x, e, h⟩ := hW.tel 3 112 (by decide) (hnd 3 (by kernel_rfl)) rfl
                        rw [e]; exact congrArg some h
                      rw [if_pos (wanted_yes (j := 3) (s := 112) (b := false) rfl (by kernel_rfl) r112)]
                      have hb := HB611.out.only hS (fun e => e)
                      refine wp_load_info (.tmp 6) rfl w3.heap.size X (eval_of r6) hb HXs.out ?_
                      exact hK _ _ rfl trivial hS
                    · intro L vs A' u hW hL0 hnd K' hK
                      have hS := hW.wi.s
                      have r1 : A'.tmps[1]? = some (.slice (some ad) l.length cc) := (hW.out 1 (fun j hj => fr_B j 1 hj (by kernel_rfl))).trans rfl
                      have r112 : A'.tmps[112]? = some (.bool false) := by
                        obtain ⟨x, e, h⟩ := hW.tel 3 112 (by decide) (hnd 3 (by kernel_rfl)) rfl
                        rw [e]; exact congrArg some h
                      rw [if_pos (wanted_yes (j := 3) (s := 112) (b := false) rfl (by kernel_rfl) r112)]
                      go_simp
                      exact hK _ _ (by first | rfl | (show _ = _; simp)) trivial (hS)
                    · intro L vs A' u hW hL0 hnd K' hK
                      have hS := hW.wi.s
                      have r1 : A'.tmps[1]? = some (.slice (some ad) l.length cc) := (hW.out 1 (fun j hj => fr_B j 1 hj (by kernel_rfl))).trans rfl
                      have r112 : A'.tmps[112]? = some (.bool false) := by
                        obtain ⟨x, e, h⟩ := hW.tel 3 112 (by decide) (hnd 3 (by kernel_rfl)) rfl
                        rw [e]; exact congrArg some h
                      rw [if_pos (wanted_yes (j := 3) (s := 112) (b := false) rfl (by kernel_rfl) r112)]
                      go_simp
                      exact hK _ _ (by first | rfl | (show _ = _; simp)) trivial (hS)
                    · intro L vs A' u hW hL0 hnd K' hK
                      have hS := hW.wi.s
                      have r115 : A'.tmps[115]? = some (.slice (some ad) l.length cc) := by
                        obtain ⟨x, e, h⟩ := hW.tel 6 115 (by decide) (hnd 6 (by kernel_rfl)) rfl
                        rw [e]; exact congrArg some h
                      have r112 : A'.tmps[112]? = some (.bool false) := by
                        obtain ⟨x, e, h⟩ := hW.tel 3 112 (by decide) (hnd 3 (by kernel_rfl)) rfl
                        rw [e]; exact congrArg some h
                      rw [if_pos (wanted_yes (j := 3) (s := 112) (b := false) rfl (by kernel_rfl) r112)]
                      go_simp
                      exact hK _ _ (by first | rfl | (show _ = _; simp)) trivial (hS)
                    · intro L vs A' u hW hL0 hnd K' hK
                      have hS := hW.wi.s
                      have r116 : A'.tmps[116]? = some (iv l.length) := by
                        obtain ⟨x, e, h⟩ := hW.tel 7 116 (by decide) (hnd 7 (by kernel_rfl)) rfl
                        rw [e]; exact congrArg some h
                      have r112 : A'.tmps[112]? = some (.bool false) := by
                        obtain ⟨x, e, h⟩ := hW.tel 3 112 (by decide) (hnd 3 (by kernel_rfl)) rfl
                        rw [e]; exact congrArg some h
                      rw [if_pos (wanted_yes (j := 3) (s := 112) (b := false) rfl (by kernel_rfl) r112)]
                      go_simp
                      exact hK _ _ (by first | rfl | (show Value.int .i64 _ = Value.int .i64 _; exact congrArg _ (wraps_i64 _ (by omega) (by omega)))) trivial hS
                    · intro L vs A' u hW hL0 hnd K' hK
                      have hS := hW.wi.s
                      have r114 : A'.tmps[114]? = some (.slice (some ad) l.length cc) := by
                        obtain ⟨x, e, h⟩ := hW.tel 5 114 (by decide) (hnd 5 (by kernel_rfl)) rfl
                        rw [e]; exact congrArg some h
                      have r117 : A'.tmps[117]? = some (iv m) := by
                        obtain ⟨x, e, h⟩ := hW.tel 8 117 (by decide) (hnd 8 (by kernel_rfl)) rfl
                        rw [e]; exact congrArg some h
                      have r112 : A'.tmps[112]? = some (.bool false) := by
                        obtain ⟨x, e, h⟩ := hW.tel 3 112 (by decide) (hnd 3 (by kernel_rfl)) rfl
                        rw [e]; exact congrArg some h
                      rw [if_pos (wanted_yes (j := 3) (s := 112) (b := false) rfl (by kernel_rfl) r112)]
                      go_simp
                      exact hK _ _ (by first | rfl | (show _ = _; simp)) trivial (hS)
                    · intro L vs A' u hW hL0 hnd K' hK
                      have hS := hW.wi.s
                      have r113 : A'.tmps[113]? = some (.agg (nfc X)) := by
                        obtain ⟨x, e, h⟩ := hW.tel 4 113 (by decide) (hnd 4 (by kernel_rfl)) rfl
                        rw [e]; exact congrArg some h
                      have r118 : A'.tmps[118]? = some (.slice (some ad) m cc) := by
                        obtain ⟨x, e, h⟩ := hW.tel 9 118 (by decide) (hnd 9 (by kernel_rfl)) rfl
                        rw [e]; exact congrArg some h
                      have r112 : A'.tmps[112]? = some (.bool false) := by
                        obtain ⟨x, e, h⟩ := hW.tel 3 112 (by decide) (hnd 3 (by kernel_rfl)) rfl
                        rw [e]; exact congrArg some h
                      rw [if_pos (wanted_yes (j := 3) (s := 112) (b := false) rfl (by kernel_rfl) r112)]
                      have HCL := Lib.hid (HC6.out u hS)
                      go_simp
                      refine (HCL.out).mono ?_
                      rintro _ u' ⟨rfl, ho2⟩
                      exact hK _ _ rfl trivial (hS.trans ho2)
                    · intro L vs A' u hW hL0 hnd K' hK
                      have hS := hW.wi.s
                      have r119 : A'.tmps[119]? = some (iv 22) := by
                        obtain ⟨x, e, h⟩ := hW.tel 10 119 (by decide) (hnd 10 (by kernel_rfl)) rfl
                        rw [e]; exact congrArg some h
                      have r112 : A'.tmps[112]? = some (.bool false) := by
                        obtain ⟨x, e, h⟩ := hW.tel 3 112 (by decide) (hnd 3 (by kernel_rfl)) rfl
                        rw [e]; exact congrArg some h
                      rw [if_pos (wanted_yes (j := 3) (s := 112) (b := false) rfl (by kernel_rfl) r112)]
                      go_simp
                      exact hK _ _ (by first | rfl | (show _ = _; simp)) trivial (hS)
                    · intro L vs A' u hW hL0 hnd K' hK
                      have hS := hW.wi.s
                      have r112 : A'.tmps[112]? = some (.bool false) := by
                        obtain ⟨x, e, h⟩ := hW.tel 3 112 (by decide) (hnd 3 (by kernel_rfl)) rfl
                        rw [e]; exact congrArg some h
                      have r120 : A'.tmps[120]? = some (.bool true) := by
                        obtain ⟨x, e, h⟩ := hW.tel 11 120 (by decide) (hnd 11 (by kernel_rfl)) rfl
                        rw [e]; exact congrArg some h
                      go_simp
                      exact hK _ _ (by first | rfl | (show _ = _; simp)) trivial (hS)
                    · intro L vs A' u hW hL0 hnd K' hK
                      have hS := hW.wi.s
                      have r121 : A'.tmps[121]? = some (.bool true) := by
                        obtain ⟨x, e, h⟩ := hW.tel 12 121 (by decide) (hnd 12 (by kernel_rfl)) rfl
                        rw [e]; exact congrArg some h
                      go_simp
                      exact hK _ _ (by first | rfl | (show _ = _; simp)) trivial (hS)
                    · intro L vs A' u hW hL0 hnd K' hK
                      have hS := hW.wi.s
                      have r122 : A'.tmps[122]? = some (.bool true) := by
                        obtain ⟨x, e, h⟩ := hW.tel 13 122 (by decide) (hnd 13 (by kernel_rfl)) rfl
                        rw [e]; exact congrArg some h
                      rw [if_pos (wanted_yes (j := 13) (s := 122) (b := true) rfl (by kernel_rfl) r122)]
                      have HCL := Lib.hid (HAw.out u)
                      go_simp
                      refine (HCL.out).mono ?_
                      rintro _ u' ⟨rfl, ho2⟩
                      exact hK _ _ rfl trivial (hS.trans ho2)
                    · intro L vs A' u hW hL0 hnd K' hK
                      have hS := hW.wi.s
                      have r122 : A'.tmps[122]? = some (.bool true) := by
                        obtain ⟨x, e, h⟩ := hW.tel 13 122 (by decide) (hnd 13 (by kernel_rfl)) rfl
                        rw [e]; exact congrArg some h
                      have r123 : A'.tmps[123]? = some (.bool true) := by
                        obtain ⟨x, e, h⟩ := hW.tel 14 123 (by decide) (hnd 14 (by kernel_rfl)) rfl
                        rw [e]; exact congrArg some h
                      go_simp
                      exact hK _ _ (by first | rfl | (show _ = _; simp)) trivial (hS)
                    · intro L vs A' u hW hL0 hnd K' hK
                      have hS := hW.wi.s
                      have r124 : A'.tmps[124]? = some (.bool true) := by
                        obtain ⟨x, e, h⟩ := hW.tel 15 124 (by decide) (hnd 15 (by kernel_rfl)) rfl
                        rw [e]; exact congrArg some h
                      go_simp
                      exact hK _ _ (by first | rfl | (show _ = _; simp)) trivial (hS)
                  case doneB =>
                    intro L vs u9 hS hP hall
                    have e0 : vs 0 = .slice (some ad) l.length cc := hP 0 (by decide)
                    have e1 : vs 1 = iv l.length := hP 1 (by decide)
                    have e2 : vs 2 = .bool false := hP 2 (by decide)
                    have e3 : vs 3 = .bool false := hP 3 (by decide)
                    have e4 : vs 4 = .agg (nfc X) := hP 4 (by decide)
                    have e5 : vs 5 = .slice (some ad) l.length cc := hP 5 (by decide)
                    have e6 : vs 6 = .slice (some ad) l.length cc := hP 6 (by decide)
                    have e7 : vs 7 = iv l.length := hP 7 (by decide)
                    have e8 : vs 8 = iv m := hP 8 (by decide)
                    have e9 : vs 9 = .slice (some ad) m cc := hP 9 (by decide)
                    have e10 : vs 10 = iv 22 := hP 10 (by decide)
                    have e11 : vs 11 = .bool true := hP 11 (by decide)
                    have e12 : vs 12 = .bool true := hP 12 (by decide)
                    have e13 : vs 13 = .bool true := hP 13 (by decide)
                    have e14 : vs 14 = .bool true := hP 14 (by decide)
                    have e15 : vs 15 = .bool true := hP 15 (by decide)
                    have e16 : vs 16 = .bool true := hP 16 (by decide)
                    simp only [putV, List.foldl_cons, List.foldl_nil, List.setIfInBounds_toArray, List.set_cons_zero, List.set_cons_succ, e0, e1, e2, e3, e4, e5, e6, e7, e8, e9, e10, e11, e12, e13, e14, e15, e16]
                    have XS := Lib.hid hS
                    clear hS e0 e1 e2 e3 e4 e5 e6 e7 e8 e9 e10 e11 e12 e13 e14 e15 e16 hP hall fr_B
                    go_wp2
                    go_ret
                    exact ⟨rfl, HO.out.trans (HOW.out.trans XS.out)⟩
  · have HOf : Hid (Calls Try.prog 21 #[.agg #[iv r, iv c, iv d], .agg Z, .slice none 0 0] W1 fun e w' => OfR W1 (ofI r c d zS []) e w') := Lib.hid (by rw [← hZ]; exact of_any r c d sum0_ok (PSrc.nil W1) ⟨by simp, by simp⟩)
    have hXs : SumOk (ofI r c d zS []).s := sum0_ok
    have HCv : Hid (∀ u, Calls Try.prog 22 #[.agg (nfc (ofI r c d zS [])), .slice none 0 0] u fun e w' => e = .returned (iv 20) ∧ Only Nix u w') := Lib.hid (fun u => covers_any (ofI r c d zS []) hXs (PSrc.nil u) ⟨by simp, by simp⟩)
    generalize ofI r c d zS [] = X at *
    clear hXs hZ
    by_cases hfew : Few l
    all_goals
      first
      | (rw [decide_eq_true hfew] at HFw
         have hn1 : (l.length : Int) = 0 := by
           have : l.length = 0 := Decidable.byContradiction fun h => hgo ⟨hfew, h⟩
           omega
         have Hfew := Lib.hid hfew
         clear hfew)
      | (rw [decide_eq_false hfew] at HFw
         have Hfew := Lib.hid hfew
         clear hfew)
      clear hgo
      go_enter Try.func7, Try.ntmps7
      go_wp2_with fail
      refine (HFw.out).mono ?_
      rintro e w2 ⟨rfl, rfl⟩
      go_wp2_with (first
        | (refine wpList_load_row rfl 23 (.tmp 2) rfl w.heap.size rfl 23 _ (0, 0) _ HB1.out Try.underlying23 rfl Try.size_params ?_)
        | (refine wpList_build_is rfl _ _ rfl Z (by simp; exact HZ.out) ?_)
        | fail)
      refine (HOf.out).mono ?_
      rintro e w3 ⟨rfl, o3⟩
      have HO3 := Lib.hid (HO.out.trans o3)
      have HCw := Lib.hid (HCv.out w3)
      clear o3
      go_wp2_with fail
      refine (HCw.out).mono ?_
      rintro e w4 ⟨rfl, o4⟩
      have HO4 := Lib.hid (HO3.out.trans o4)
      have HA4 := Lib.hid (HAw.out w4)
      clear o4
      go_wp2_with fail
      refine (HA4.out).mono ?_
      rintro e w5 ⟨rfl, o5⟩
      have HO5 := Lib.hid (HO4.out.trans o5)
      clear o5
      go_wp2
      go_ret
      exact ⟨rfl, HO5.out⟩
end Go.Proofs.Ytllpeknjnhdbmaa
