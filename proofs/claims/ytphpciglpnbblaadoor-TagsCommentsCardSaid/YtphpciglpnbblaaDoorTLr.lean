/-
  The document's ReadComments.
-/
import Derived.Test.YtphpciglpnbblaaDoorTLl
import Derived.Test.YtphpciglpnbblaaDoorTLw
namespace Go.Proofs.YtphpciglpnbblaaDoor
open Go.RowKit Go.Shelf

theorem low_cases (r : List Nat) (hb : ∀ x ∈ r, x < 256) : (r.length < 4 ∧ lowE r = -1) ∨ (¬ r.length < 4 ∧ ∃ s : Nat, lowE r = s ∧ lv (tkB 4 r) = s ∧ s < 4294967296) := by
  by_cases h : r.length < 4
  · exact .inl ⟨h, by unfold lowE; rw [if_pos h]⟩
  · refine .inr ⟨h, lv (r.take 4), by unfold lowE; rw [if_neg h], by unfold tkB; rw [if_neg h], ?_⟩
    have := lv_lt (r.take 4) (fun x hx => hb x (List.mem_of_mem_take hx))
    rw [List.length_take, show min 4 r.length = 4 by omega] at this
    exact this
theorem tx_in (r : List Nat) (s : Nat) (h4 : ¬ r.length < 4) (hs : lv (tkB 4 r) = s) (hl : 4 + s ≤ r.length) : txS lv r = false ∧ txB lv r = (r.drop 4).take s ∧ txR lv r = r.drop (4 + s) := by
  have hR : tkR 4 r = r.drop 4 := by unfold tkR; rw [if_neg h4]
  have hd : (r.drop 4).length = r.length - 4 := List.length_drop
  unfold txS txB txR
  rw [hs, hR]
  refine ⟨?_, ?_, ?_⟩
  · rw [decide_eq_false h4, decide_eq_false (by omega)]; rfl
  · unfold tkB; rw [if_neg (by omega)]
  · unfold tkR; rw [if_neg (by omega), List.drop_drop]
theorem tx_out (r : List Nat) (s : Nat) (h4 : ¬ r.length < 4) (hs : lv (tkB 4 r) = s) (hl : ¬ 4 + s ≤ r.length) : txS lv r = true := by
  have hR : tkR 4 r = r.drop 4 := by unfold tkR; rw [if_neg h4]
  have hd : (r.drop 4).length = r.length - 4 := List.length_drop
  unfold txS
  rw [hs, hR, decide_eq_true (p := (r.drop 4).length < s) (by omega), Bool.or_true]
theorem tx_out0 (r : List Nat) (h4 : r.length < 4) : txS lv r = true := by
  unfold txS
  rw [decide_eq_true h4, Bool.true_or]
theorem lsF_sh (k : Nat) (r : List Nat) : (lsF lv k true r).2.2 = true := by
  cases k with
  | zero => rfl
  | succ k => rw [lsF_stop lv k true r rfl]
/-- where ReadComments is without the first text -/
theorem rd_first (bs : List Nat) (h : txS lv bs = true) : rdE bs = 11 := by
  unfold rdE rdR
  rw [if_pos]
  rw [h, Bool.true_or]
  exact lsF_sh _ _
theorem rd_second (bs : List Nat) (h : (txR lv bs).length < 4) : rdE bs = 11 := by
  unfold rdE rdR
  rw [if_pos]
  rw [decide_eq_true h, Bool.or_true]
  exact lsF_sh _ _
theorem rdR_go (bs : List Nat) (h : txS lv bs = false) (h2 : ¬ (txR lv bs).length < 4) (m : Nat) (hm : lv (tkB 4 (txR lv bs)) = m) (s : Nat) (hR : txR lv bs = bs.drop s) : rdR bs = lsF lv m false (bs.drop (s + 4)) := by
  unfold rdR
  rw [hm, h, decide_eq_false h2]
  have : tkR 4 (txR lv bs) = bs.drop (s + 4) := by unfold tkR; rw [if_neg h2, hR, List.drop_drop]
  rw [this]
  rfl
/-- what the document's ReadComments answers -/
def RfR (w : World) (bs : List Nat) (e : Ending) (w' : World) : Prop :=
  (∃ v, e = .returned (.tuple #[.string (if rdE bs = 0 then rdV bs else ⟨#[]⟩), v, iv (rdE bs)]) ∧ SSrc w' v (if rdE bs = 0 then rdL bs else [])) ∧ Only Nix w w'
def RlRel (w : World) (bs : List Nat) (m : Nat) (R : List (List Nat) × List Nat × Bool) (s7 s9 s10 : Value) (wr : World) : Prop :=
  ∃ (i : Nat) (L : List (List Nat)) (k : Nat), i ≤ m ∧ k ≤ bs.length ∧ s10 = iv i ∧ s7 = iv k ∧ (L ++ (lsF lv (m - i) false (bs.drop k)).1, (lsF lv (m - i) false (bs.drop k)).2) = R ∧ Owns wr w.heap.size 9 Value.string s9 (L.map strN) ∧ Only Nix w wr ∧ 4 * L.length ≤ k
theorem rdE_sh (bs : List Nat) (h : (rdR bs).2.2 = true) : rdE bs = 11 := by unfold rdE; rw [if_pos h]
theorem rdE_off (bs : List Nat) (h : (rdR bs).2.2 = false) (h2 : 0 < (rdR bs).2.1.length) : rdE bs = 12 := by unfold rdE; rw [if_neg (by rw [h]; decide), if_pos h2]
theorem rdE_ck (bs : List Nat) (h : (rdR bs).2.2 = false) (h2 : ¬ 0 < (rdR bs).2.1.length) : rdE bs = ckE (rdV bs) (rdL bs) := by unfold rdE; rw [if_neg (by rw [h]; decide), if_neg h2]
theorem SSrc.empty (w : World) : SSrc w (.slice none 0 0) [] := ⟨⟨none, 0, rfl, by simp, fun j hj => by simp at hj⟩, by simp⟩
set_option maxRecDepth 100000 in
set_option maxHeartbeats 8000000 in
theorem readC13_any {w : World} {x : Value} {bs : List Nat} (hs : CSrc w x bs) (hN : bs.length ≤ 30000) :
    Calls Tryd.prog 13 #[x] w fun e w' => RfR w bs e w' := by
  obtain ⟨A, c, rfl, hcap⟩ := hs.form
  have HS := Lib.hid hs
  have HCap := Lib.hid hcap
  have HLw : Hid (∀ u, Only Nix w u → ∀ k : Nat, k ≤ bs.length → Calls Tryd.prog 35 #[.slice A bs.length c, iv k] u fun e w' => e = .returned (iv (lowE (bs.drop k))) ∧ Only Nix u w') := Lib.hid (fun u hu k hk => low13 (hs.nix hu) k (by omega))
  have HB : Hid (∀ k, ∀ x ∈ bs.drop k, x < 256) := Lib.hid (fun k x hx => hs.src.lt x (List.mem_of_mem_drop hx))
  have HCv : Hid (∀ u, Only Nix w u → ∀ i m : Nat, i + m ≤ bs.length → (convert 25 9 (.slice (cutA A c i) m (c - i))).run Tryd.prog u = .ok (.string (strN ((bs.drop i).take m))) u) := Lib.hid (fun u hu i m him => conv_src (csrc_win (hs.nix hu) i m him).src)
  have HSl : Hid (∀ i m : Nat, i + m ≤ bs.length → ∀ (p q : Int), p = i → q = i + m → ∀ u, (Instr.slice 25 (.slice A bs.length c) (some (.int .i64 p)) (some (.int .i64 q)) none).run Tryd.prog u = .ok (.slice (cutA A c i) m (c - i)) u) := Lib.hid (fun i m him p q hp hq u => by
    have := slice_win A bs.length c i (i + m) (by omega) (by omega) u
    rw [show i + m - i = m by omega] at this
    rw [hp, hq, ← this, Int.natCast_add])
  have hz1 := (rd_sz bs).1
  have hz2 := (rd_sz bs).2
  have HZ : Hid (8 + (rdV bs).size + szL (rdL bs) ≤ 80000) := Lib.hid (by omega)
  have HLn : Hid ((rdL bs).length ≤ 80000) := Lib.hid (by have := ls_len (rdL bs); omega)
  have HQE : Hid (∀ u E, rdE bs = E → E ≠ 0 → Only Nix w u → RfR w bs (.returned (.tuple #[.string ⟨#[]⟩, .slice none 0 0, iv E])) u) := Lib.hid (fun u E he hE hu => by
    subst he
    exact ⟨⟨_, by rw [if_neg hE], by rw [if_neg hE]; exact SSrc.empty _⟩, hu⟩)
  have HQG : Hid (∀ u v, rdE bs = 0 → SSrc u v (rdL bs) → Only Nix w u → RfR w bs (.returned (.tuple #[.string (rdV bs), v, iv 0])) u) := Lib.hid (fun u v he hv hu => ⟨⟨_, by rw [he, if_pos rfl], by rw [if_pos he]; exact hv⟩, hu⟩)
  have HL0 := Lib.hid (HLw.out w (Only.refl _ _) 0 (Nat.zero_le _))
  have HCm : Hid (∀ u v, SSrc u v (rdL bs) → Calls Tryd.prog 10 #[.string (rdV bs), v] u fun e w' => WtR u (ckE (rdV bs) (rdL bs)) (wrC (rdV bs) (rdL bs)) e w') := Lib.hid (fun u v hv => comments13_any hv HZ.out)
  have HE3 := Lib.hid (rdE_sh bs)
  have HE4 := Lib.hid (rdE_off bs)
  have HE5 := Lib.hid (rdE_ck bs)
  have HrL : Hid ((rdR bs).1.map strN = rdL bs) := Lib.hid rfl
  have HE1 := Lib.hid (rd_first bs)
  have HE2 := Lib.hid (rd_second bs)
  have HRg := Lib.hid (rdR_go bs)
  have hdz : bs.drop 0 = bs := rfl
  rw [hdz] at HL0
  clear hdz hcap hz1 hz2 hs
  generalize hQ : RfR w bs = QQ at *
  go_enter Tryd.func13, Tryd.ntmps13
  go_wp2_with fail
  refine (HL0.out).mono ?_
  rintro e w1 ⟨rfl, ho⟩
  have HO1 := Lib.hid ho
  clear ho
  rcases low_cases bs (HB.out 0) with ⟨h4, hl⟩ | ⟨h4, s, hl, hlv, hs32⟩
  · have HF := Lib.hid (HQE.out w1 11 (HE1.out (tx_out0 bs h4)) (by decide) HO1.out)
    rw [hl]
    clear hl h4
    go_wp2
    go_ret3
    exact HF.out
  · rw [hl]
    clear hl
    have hneg : ¬ (s : Int) < 0 := by omega
    by_cases hlen : 4 + s ≤ bs.length
    · obtain ⟨hS, hBy, hR⟩ := tx_in bs s h4 hlv hlen
      have hgt : ¬ (bs.length : Int) < 4 + (s : Int) := by omega
      have hsl := HSl.out 4 s hlen 4 (4 + (s : Int)) rfl rfl
      have hcv := HCv.out w1 HO1.out 4 s hlen
      have hV : strN ((bs.drop 4).take s) = rdV bs := by rw [← hBy]; rfl
      rw [hV] at hcv
      have HL1 := Lib.hid (HLw.out w1 HO1.out (4 + s) hlen)
      rw [show ((4 + s : Nat) : Int) = 4 + (s : Int) by omega] at HL1
      have HR' : Hid (txR lv bs = bs.drop (4 + s)) := Lib.hid hR
      have HlenS : Hid (4 + s ≤ bs.length) := Lib.hid hlen
      clear hBy hlv hV h4 hlen
      generalize cutA A c 4 = A4 at *
      generalize c - 4 = c4 at *
      go_wp2_with fail
      refine (HL1.out).mono ?_
      rintro e w2 ⟨rfl, ho⟩
      have HO2 := Lib.hid (HO1.out.trans ho)
      clear ho hsl hcv
      rcases low_cases (bs.drop (4 + s)) (HB.out _) with ⟨h4, hl⟩ | ⟨h4, m, hl, hlv, hm32⟩
      · have HF := Lib.hid (HQE.out w2 11 (HE2.out (by rw [HR'.out]; exact h4)) (by decide) HO2.out)
        rw [hl]
        clear hl h4 hS hR
        go_wp2
        go_ret3
        exact HF.out
      · rw [hl]
        have hRR : rdR bs = lsF lv m false (bs.drop (4 + s + 4)) := HRg.out hS (by rw [hR]; exact h4) m (by rw [hR]; exact hlv) (4 + s) hR
        have HRR := Lib.hid hRR
        have hk0 : 4 + s + 4 ≤ bs.length := by rw [List.length_drop] at h4; omega
        have hmneg : ¬ (m : Int) < 0 := by omega
        clear hl h4 hS hR hlv hRR
        generalize rdR bs = R at *
        generalize rdV bs = VV at *
        generalize rdL bs = LL at *
        generalize rdE bs = EE at *
        go_wp2
        go_loopw [7, 9, 10] (fun s7 s9 s10 wr => RlRel w bs m R s7 s9 s10 wr) (fun _ _ s10 _ => m - (intOf s10).toNat)
        case atStart => exact ⟨0, [], 4 + s + 4, Nat.zero_le _, hk0, rfl, by go_num, by rw [HRR.out]; rfl, Owns.nil _ _ _ _, HO2.out, by simp⟩
        case round =>
          obtain ⟨i, L, k, hi, hk, rfl, rfl, hgo, hown, ho, hLk⟩ := hrel
          have HW := Lib.hid hown
          have HOr := Lib.hid ho
          by_cases hlt : i < m
          · have hlti : (i : Int) < (m : Int) := by omega
            have HLi := Lib.hid (HLw.out wr HOr.out k hk)
            obtain ⟨d, hd⟩ : ∃ d, m - i = d + 1 := ⟨m - i - 1, by omega⟩
            have hd2 : m - (i + 1) = d := by omega
            rw [hd] at hgo
            have HGo := Lib.hid hgo
            clear hgo hown ho
            go_wp2_with fail
            refine (HLi.out).mono ?_
            rintro e w5 ⟨rfl, ho5⟩
            have HO5 := Lib.hid (HOr.out.trans ho5)
            have HW5 := Lib.hid (HW.out.nix ho5)
            clear ho5
            have HSt : Hid (txS lv (bs.drop k) = true → EE = 11) := Lib.hid (fun h => HE3.out (by
              rw [← HGo.out]
              show (lsF lv (d + 1) false (bs.drop k)).2.2 = true
              rw [lsF_stop lv d false (bs.drop k) (by rw [h]; rfl)]))
            rcases low_cases (bs.drop k) (HB.out _) with ⟨h4, hl⟩ | ⟨h4, s1, hl, hlv, hs32'⟩
            · have HF := Lib.hid (HQE.out w5 11 (HSt.out (tx_out0 _ h4)) (by decide) HO5.out)
              rw [hl]
              clear hl h4
              go_wp2
              go_ret3
              exact HF.out
            · rw [hl]
              clear hl
              have hneg1 : ¬ (s1 : Int) < 0 := by omega
              by_cases hlen : 4 + s1 ≤ (bs.drop k).length
              · obtain ⟨hS1, hBy1, hR1⟩ := tx_in (bs.drop k) s1 h4 hlv hlen
                have hle : k + 4 + s1 ≤ bs.length := by rw [List.length_drop] at hlen; omega
                have hgt1 : ¬ (bs.length : Int) < (k : Int) + 4 + (s1 : Int) := by omega
                have hsl := HSl.out (k + 4) s1 hle ((k : Int) + 4) ((k : Int) + 4 + (s1 : Int)) (by omega) (by omega)
                have hcv := HCv.out w5 HO5.out (k + 4) s1 hle
                rw [List.drop_drop] at hBy1 hR1
                rw [← hBy1] at hcv
                have HGo2 : Hid ((L ++ [txB lv (bs.drop k)] ++ (lsF lv d false (bs.drop (k + 4 + s1))).1, (lsF lv d false (bs.drop (k + 4 + s1))).2) = R) := Lib.hid (by
                  rw [← HGo.out, lsF_go lv d false (bs.drop k) (by rw [hS1]; rfl), hR1, show k + (4 + s1) = k + 4 + s1 by omega]
                  simp)
                have hmap : Hid ((L ++ [txB lv (bs.drop k)]).map strN = L.map strN ++ [strN (txB lv (bs.drop k))]) := Lib.hid (by simp)
                have HLl : Hid ((L.map strN).length ≤ 100000) := Lib.hid (by rw [List.length_map]; omega)
                have HSz5 := Lib.hid (HO5.out.size)
                have Hle := Lib.hid hle
                clear hS1 hBy1 hR1 h4 hlv hlen hle
                generalize txB lv (bs.drop k) = B at *
                generalize cutA A c (k + 4) = A5 at *
                generalize c - (k + 4) = c5 at *
                go_wp2_with (at_builtin; refine app_text rfl (.tmp 58) (.tmp 68) rfl w.heap.size u9 (L.map strN) rfl ?own1 w5.heap.size (strN B) rfl ((Box.new w5 _ _).cell 0) HLl.out ?base1 ?rest1)
                case own1 => exact HW5.out.nix ((Only.refl Nix w5).alloc _)
                case base1 => have := HSz5.out; simp; omega
                case rest1 =>
                  intro v6 w6 h6 g6 m6
                  have HW6 := Lib.hid h6
                  have HO6 : Hid (Only Nix w w6) := Lib.hid ((HO5.out.alloc _).grown g6 (fun k hk => .inr (HW5.out.lt hk).1))
                  clear h6 g6 m6
                  go_wp2
                  go_roundw
                  case rel => exact ⟨i + 1, L ++ [B], k + 4 + s1, hlt, Hle.out, by go_num, by go_num, by rw [hd2]; exact HGo2.out, by rw [hmap.out]; exact HW6.out, HO6.out, by rw [List.length_append, List.length_singleton]; omega⟩
                  case measure => simp [intOf]; omega
              · have hgt1 : (bs.length : Int) < (k : Int) + 4 + (s1 : Int) := by rw [List.length_drop] at hlen; omega
                have HF := Lib.hid (HQE.out w5 11 (HSt.out (tx_out _ s1 h4 hlv hlen)) (by decide) HO5.out)
                clear h4 hlv hlen
                go_wp2
                go_ret3
                exact HF.out
          · have hlti : ¬ (i : Int) < (m : Int) := by omega
            have him : m - i = 0 := by omega
            rw [him] at hgo
            have hR3 : R = (L, bs.drop k, false) := by
              rw [← hgo]
              show (L ++ [], _) = _
              rw [List.append_nil]
              rfl
            have HR3 := Lib.hid hR3
            clear hgo hown ho hR3
            by_cases hkn : k < bs.length
            · have hkni : (k : Int) < (bs.length : Int) := by omega
              have HF := Lib.hid (HQE.out wr 12 (HE4.out (by rw [HR3.out]) (by rw [HR3.out]; show 0 < (bs.drop k).length; rw [List.length_drop]; omega)) (by decide) HOr.out)
              go_wp2
              go_ret3
              exact HF.out
            · have hkni : ¬ (k : Int) < (bs.length : Int) := by omega
              have HEk := Lib.hid (HE5.out (by rw [HR3.out]) (by rw [HR3.out]; show ¬ 0 < (bs.drop k).length; rw [List.length_drop]; omega))
              have HT : Hid (SSrc wr u9 LL) := Lib.hid (by
                have := HrL.out
                rw [HR3.out] at this
                rw [← this]
                exact HW.out.texts (by rw [List.length_map]; omega))
              have HCk := Lib.hid (HCm.out wr u9 HT.out)
              unfold WtR at HCk
              go_wp2_with fail
              refine (HCk.out).mono ?_
              rintro e w6 ⟨⟨v6, rfl, hv6⟩, ho6⟩
              have HO6 := Lib.hid (HOr.out.trans ho6)
              have HT6 := Lib.hid (HT.out.nix ho6)
              obtain ⟨CK, hCK⟩ : ∃ CK, ckE VV LL = CK := ⟨_, rfl⟩
              rw [hCK]
              rw [hCK] at HEk
              clear hv6 ho6 hCK
              by_cases h0 : CK = 0
              · subst h0
                have HF := Lib.hid (HQG.out w6 u9 HEk.out HT6.out HO6.out)
                go_wp2
                go_ret3
                exact HF.out
              · have HF := Lib.hid (HQE.out w6 CK HEk.out h0 HO6.out)
                go_wp2
                go_ret3
                exact HF.out
    · have hgt : (bs.length : Int) < 4 + (s : Int) := by omega
      have HF := Lib.hid (HQE.out w1 11 (HE1.out (tx_out bs s h4 hlv hlen)) (by decide) HO1.out)
      clear h4 hlv hlen
      go_wp2
      go_ret3
      exact HF.out
end Go.Proofs.YtphpciglpnbblaaDoor
