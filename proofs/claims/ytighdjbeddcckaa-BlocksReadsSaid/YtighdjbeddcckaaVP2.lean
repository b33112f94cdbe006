/-
  The document's Read: its walk.
-/
import Derived.Test.YtighdjbeddcckaaVP1
namespace Go.Proofs.Ytighdjbeddcckaa
open Go.RowKit Go.Shelf

/-- what the document's Read answers -/
def RfR (w : World) (bs : List Nat) (e : Ending) (w' : World) : Prop :=
  (if (rdB bs).2.2 = 0 then ∃ v1 v2, e = .returned (.tuple #[v1, v2, iv ((rdB bs).2.1 : Nat), iv 0]) ∧ ISrc w' v1 ((rdB bs).1.map (·.1)) ∧ LSrc w' v2 ((rdB bs).1.map (·.2)) else e = .returned (.tuple #[.slice none 0 0, .slice none 0 0, iv 0, iv (rdB bs).2.2])) ∧ Only Nix w w'
def RfI (w : World) (bs : List Nat) (s6 s7 s8 : Value) (wr : World) : Prop := ∃ (s f : Nat) (l : List Bk) (ss : List Sl), s8 = iv s ∧ s ≤ bs.length ∧ Owns wr w.heap.size 3 iv s6 (l.map (·.1)) ∧ Owns wr w.heap.size 22 slv s7 ss ∧ ss.length = l.length ∧ (∀ i, (h1 : i < ss.length) → (h2 : i < l.length) → Owns wr w.heap.size 5 byt (slv ss[i]) l[i].2) ∧ 4 * l.length ≤ s ∧ (∀ p ∈ l, (0 ≤ p.1 ∧ p.1 ≤ 127) ∧ p.2.length ≤ 100000 ∧ ∀ x ∈ p.2, x < 256) ∧ rdF bs f s l = rdB bs ∧ bs.length < s + f ∧ Only Nix w wr
theorem results_tmp4 {fn : Func} {t u v x : Tmp} (h : fn.results = #[.tmp t, .tmp u, .tmp v, .tmp x]) (tmps : Array Value) (P : Program) (w : World) :
    (results fn tmps).run P w = .ok (.tuple #[tmps.getD t undef, tmps.getD u undef, tmps.getD v undef, tmps.getD x undef]) w := by
  simp [results, h]
theorem add_suc (a : Addr) (k : Nat) : a.add (k + 1) = ⟨a.block, a.off + (k + 1), none⟩ := by unfold Addr.add; rw [if_neg (by simp)]
theorem vl3 (a b c : Nat) : vl [a, b, c] = a * 65536 + b * 256 + c := by simp [vl]; omega
set_option maxRecDepth 100000 in
set_option maxHeartbeats 16000000 in
theorem readRef_any {w : World} {A : Option Addr} {n c : Nat} {bs : List Nat} (hs : CSrc w (.slice A n c) bs) (hn : bs.length ≤ 100000) : Calls Try.prog 11 #[.slice A n c] w fun e w' => RfR w bs e w' := by
  have hlen := hs.src.len
  have hcap := hs.cap _ _ _ rfl
  subst hlen
  have HS := Lib.hid hs
  have HRe : Hid (∀ E w', (rdB bs).2.2 = E → E ≠ 0 → Only Nix w w' → RfR w bs (.returned (.tuple #[.slice none 0 0, .slice none 0 0, iv 0, iv E])) w') := Lib.hid (fun E w' he h0 ho => ⟨by rw [he, if_neg h0], ho⟩)
  have HRk : Hid (∀ l s v1 v2 w', rdB bs = (l, s, 0) → ISrc w' v1 (l.map (·.1)) → LSrc w' v2 (l.map (·.2)) → Only Nix w w' → RfR w bs (.returned (.tuple #[v1, v2, iv (s : Nat), iv 0])) w') := Lib.hid (fun l s v1 v2 w' he h1 h2 ho => ⟨by rw [he]; exact ⟨v1, v2, rfl, h1, h2⟩, ho⟩)
  have HR0 : Hid (rdF bs (bs.length + 1) 0 [] = rdB bs) := Lib.hid rfl
  clear hs
  go_enter Try.func11, Try.ntmps11
  go_wp2
  go_loopw [6, 7, 8] (fun s6 s7 s8 wr => RfI w bs s6 s7 s8 wr) (fun _ _ s8 _ => bs.length + 1 - (intOf s8).toNat)
  case atStart => exact ⟨0, bs.length + 1, [], [], rfl, Nat.zero_le _, Owns.nil _ _ _ _, Owns.nil _ _ _ _, rfl, (fun i h => absurd h (by simp)), by simp, (fun p hp => absurd hp (by simp)), HR0.out, by omega, Only.refl _ _⟩
  case round =>
    obtain ⟨s, f, l, ss, rfl, hs, h6, h7, hsl, hdt, h4l, hfb, hr, hfs, ho⟩ := hrel
    have H6 := Lib.hid h6
    have H7 := Lib.hid h7
    have HSl := Lib.hid hsl
    have HDt := Lib.hid hdt
    have H4l := Lib.hid h4l
    have HFb := Lib.hid hfb
    have HO := Lib.hid ho
    have Hfs := Lib.hid hfs
    have Hsz := Lib.hid ho.size
    obtain ⟨f, rfl⟩ : ∃ f', f = f' + 1 := ⟨f - 1, by omega⟩
    rw [rdF_step] at hr
    have HR := Lib.hid hr
    have Hs := Lib.hid hs
    clear h6 h7 hsl hdt h4l hfb ho hr hfs
    by_cases hlt : bs.length < s + 4
    · have he : fsE (bs.drop s) = 11 := if_pos (by rw [List.length_drop]; omega)
      rw [he, if_neg (by decide)] at HR
      have HZ := Lib.hid (HRe.out 11 wr (by rw [← HR.out]) (by decide) HO.out)
      have hi : (bs.length : Int) < (s : Int) + 4 := by omega
      clear he
      go_wp2
      refine bodyPost_ret (results_tmp4 rfl _ _ _) rfl ?_
      exact HZ.out
    have hi : ¬ (bs.length : Int) < (s : Int) + 4 := by omega
    have h0l : s < bs.length := by omega
    have h1l : s + 1 < bs.length := by omega
    have h2l : s + 2 < bs.length := by omega
    have h3l : s + 3 < bs.length := by omega
    have HSW := HS.out.src.nix HO.out
    obtain ⟨ad, hAd, hx0⟩ := HSW.at_ h0l
    subst hAd
    obtain ⟨_, e1, hx1⟩ := HSW.at_ h1l
    injection e1 with e1
    subst e1
    obtain ⟨_, e1, hx2⟩ := HSW.at_ h2l
    injection e1 with e1
    subst e1
    obtain ⟨_, e1, hx3⟩ := HSW.at_ h3l
    injection e1 with e1
    subst e1
    have hb0 := HSW.lt _ (List.getElem_mem h0l)
    have hb1 := HSW.lt _ (List.getElem_mem h1l)
    have hb2 := HSW.lt _ (List.getElem_mem h2l)
    have hb3 := HSW.lt _ (List.getElem_mem h3l)
    have hD0 : (bs.drop s).getD 0 0 = bs[s] := by rw [List.getD_eq_getElem?_getD, List.getElem?_drop, Nat.add_zero, List.getElem?_eq_getElem h0l, Option.getD_some]
    have hD3 : szK (bs.drop s) = bs[s + 1] * 65536 + bs[s + 2] * 256 + bs[s + 3] := by
      unfold szK
      rw [List.drop_drop, List.drop_eq_getElem_cons h1l, List.drop_eq_getElem_cons h2l, List.drop_eq_getElem_cons h3l]
      exact vl3 _ _ _
    have hTy : tyK (bs.drop s) = bs[s] % 128 := by unfold tyK; rw [hD0]
    have hEE : fsE (bs.drop s) = if bs.length - s - 4 < szK (bs.drop s) then 11 else if tyK (bs.drop s) = 127 then 13 else 0 := by
      unfold fsE
      rw [if_neg (by rw [List.length_drop]; omega), List.length_drop]
    have hKK : fsK (bs.drop s) = (((tyK (bs.drop s) : Nat) : Int), (bs.drop (s + 4)).take (szK (bs.drop s))) := by unfold fsK; rw [List.drop_drop]
    have hszl := szK_lt (bs.drop s) (fun x hx => HS.out.src.lt x (List.mem_of_mem_drop hx))
    have Hwin : Hid (s + 4 + szK (bs.drop s) ≤ bs.length → CSrc w (.slice (cutA (some ad) c (s + 4)) (szK (bs.drop s)) (c - (s + 4))) ((bs.drop (s + 4)).take (szK (bs.drop s)))) := Lib.hid (fun h => csrc_win HS.out (s + 4) (szK (bs.drop s)) h)
    rw [hD0, hKK] at HR
    obtain ⟨S, hS⟩ : ∃ z, szK (bs.drop s) = z := ⟨_, rfl⟩
    rw [hS] at hD3 hEE hszl Hwin HR
    rw [hTy] at hEE HR
    have HEE := Lib.hid hEE
    generalize bs[s] = x0 at *
    generalize bs[s + 1] = x1 at *
    generalize bs[s + 2] = x2 at *
    generalize bs[s + 3] = x3 at *
    obtain ⟨E, hE⟩ : ∃ z, fsE (bs.drop s) = z := ⟨_, rfl⟩
    rw [hE] at HEE HR
    have hSi : (x1 : Int) * 65536 + (x2 : Int) * 256 + (x3 : Int) = (S : Int) := by omega
    unfold byt at hx0 hx1 hx2 hx3
    clear HSW hD0 hTy hEE hKK hS hE hD3
    have hq1 : (s : Int) + 1 < (bs.length : Int) := by omega
    have hq2 : (s : Int) + 2 < (bs.length : Int) := by omega
    have hq3 : (s : Int) + 3 < (bs.length : Int) := by omega
    have hq0 : (s : Int) < (bs.length : Int) := by omega
    rw [add_suc] at hx1
    rw [show s + 2 = (s + 1) + 1 from rfl, add_suc] at hx2
    rw [show s + 3 = (s + 2) + 1 from rfl, add_suc] at hx3
    have HX0 := Lib.hid hx0
    clear hx0
    go_wp2
    go_quiet (fail)
    have hS9 : Only Nix wr (wr.drewN nq) := (Only.refl _ _).drewN nq
    obtain ⟨u9, hu9⟩ : ∃ z, wr.drewN nq = z := ⟨_, rfl⟩
    rw [hu9] at hS9 ⊢
    clear hu9
    have HO9 := Lib.hid (HO.out.trans hS9)
    have HK9 := Lib.hid hS9
    have hx0 := cell_keep hS9 HX0.out
    clear hS9 hx1 hx2 hx3 hSi
    by_cases g1 : bs.length < s + 4 + S
    · have he : E = 11 := by rw [HEE.out, if_pos (by omega)]
      rw [he, if_neg (by decide)] at HR
      have HZ := Lib.hid (fun w' => HRe.out 11 w' (by rw [← HR.out]) (by decide))
      have g1i : (bs.length : Int) < (s : Int) + 4 + (S : Int) := by omega
      clear he HEE Hwin
      go_wp2
      refine bodyPost_ret (results_tmp4 rfl _ _ _) rfl ?_
      exact HZ.out _ HO9.out
    have g1i : ¬ (bs.length : Int) < (s : Int) + 4 + (S : Int) := by omega
    by_cases g2 : x0 % 128 = 127
    · have he : E = 13 := by rw [HEE.out, if_neg (by omega), if_pos g2]
      rw [he, if_neg (by decide)] at HR
      have HZ := Lib.hid (fun w' => HRe.out 13 w' (by rw [← HR.out]) (by decide))
      clear he HEE Hwin
      rcases (show x0 = 127 ∨ x0 = 255 by omega) with rfl | rfl
      · go_wp2
        refine bodyPost_ret (results_tmp4 rfl _ _ _) rfl ?_
        exact HZ.out _ HO9.out
      · go_wp2
        refine bodyPost_ret (results_tmp4 rfl _ _ _) rfl ?_
        exact HZ.out _ HO9.out
    · have he : E = 0 := by rw [HEE.out, if_neg (by omega), if_neg g2]
      rw [he, if_pos rfl] at HR
      have g3 : ((x0 : Int) == 127) = false := by simp; omega
      have g4 : ((x0 : Int) == 255) = false := by simp; omega
      have HWn := Lib.hid (Hwin.out (by omega))
      have HDl : Hid (((bs.drop (s + 4)).take S).length = S) := Lib.hid (by rw [List.length_take, List.length_drop]; omega)
      have HDlt : Hid (∀ x ∈ (bs.drop (s + 4)).take S, x < 256) := Lib.hid HWn.out.src.lt
      obtain ⟨D, hD⟩ : ∃ z, (bs.drop (s + 4)).take S = z := ⟨_, rfl⟩
      rw [hD] at HWn HDl HDlt HR
      have hm128 : (x0 : Int) % 128 = ((x0 % 128 : Nat) : Int) := by omega
      have HT : Hid (x0 % 128 < 128) := Lib.hid (Nat.mod_lt _ (by decide))
      obtain ⟨T, hT⟩ : ∃ z, x0 % 128 = z := ⟨_, rfl⟩
      rw [hT] at hm128 HT HR
      have HL1 : Hid ((l.map (·.1)).length ≤ 100000) := Lib.hid (by rw [List.length_map]; have := H4l.out; omega)
      have HL2 : Hid (ss.length ≤ 100000) := Lib.hid (by have := HSl.out; have := H4l.out; omega)
      have hs4 : (s : Int) + 4 + (S : Int) ≤ (c : Int) := by omega
      have g1m : s + 4 + S ≤ bs.length := by omega
      have g1n := Lib.hid g1m
      clear he HEE Hwin g2 hD hT
      have H69 := Lib.hid (H6.out.nix HK9.out)
      have H79 := Lib.hid (H7.out.nix HK9.out)
      have HDt9 : Hid (∀ i, (h1 : i < ss.length) → (h2 : i < l.length) → Owns u9 w.heap.size 5 byt (slv ss[i]) l[i].2) := Lib.hid (fun i h1 h2 => (HDt.out i h1 h2).nix HK9.out)
      have hx0i : Hid (128 ≤ x0 ↔ (127 : Int) < (x0 : Int)) := Lib.hid (by omega)
      have Hok : Hid (s + (4 + S) ≤ bs.length) := Lib.hid (by omega)
      clear HX0 HK9 H6 H7 HDt
      have hsw : ∀ u, (Instr.slice 22 (.slice (some ad) bs.length c) (some (.int .i64 ((s : Int) + 4))) (some (.int .i64 ((s : Int) + 4 + (S : Int)))) none).run Try.prog u = .ok (.slice (cutA (some ad) c (s + 4)) S (c - (s + 4))) u := fun u => by
        have h := slice_win (some ad) bs.length c (s + 4) (s + 4 + S) (by omega) (by omega) u
        rw [show s + 4 + S - (s + 4) = S by omega] at h
        rw [show ((s + 4 : Nat) : Int) = (s : Int) + 4 by omega, show ((s + 4 + S : Nat) : Int) = (s : Int) + 4 + (S : Int) by omega] at h
        exact h
      obtain ⟨AX, hAX⟩ : ∃ z, cutA (some ad) c (s + 4) = z := ⟨_, rfl⟩
      obtain ⟨CX, hCX⟩ : ∃ z, c - (s + 4) = z := ⟨_, rfl⟩
      have HSrc := Lib.hid ((HWn.out.nix HO9.out).src)
      rw [hAX, hCX] at hsw HSrc
      have HSl1 : Hid (0 + S ≤ 1000000) := Lib.hid (by omega)
      clear HWn hAX hCX
      go_wp2_with (at_builtin; refine wpList_append_bytes rfl (.tmp 57) (.tmp 65) rfl w.heap.size (.slice none 0 0) 0 [] rfl ⟨rfl, .inl ⟨rfl, rfl⟩⟩ AX S CX D rfl HSrc.out HSl1.out HO9.out.size ?rest0)
      case rest0 =>
        intro v1 w1 r1 g1' m1
        have k1 : Only Nix u9 w1 := (Only.refl Nix u9).grown g1' (fun k e => by cases e)
        have hO1 : Owns w1 w.heap.size 5 byt v1 D := by
          unfold Owns
          rw [HDl.out]
          simpa using r1
        obtain ⟨A1, c1, rfl⟩ := hO1.slice
        have HD1 := Lib.hid hO1
        have H61 := Lib.hid (H69.out.nix k1)
        have H71 := Lib.hid (H79.out.nix k1)
        have HDt1 : Hid (∀ i, (h1 : i < ss.length) → (h2 : i < l.length) → Owns w1 w.heap.size 5 byt (slv ss[i]) l[i].2) := Lib.hid (fun i h1 h2 => (HDt9.out i h1 h2).nix k1)
        have HO1 := Lib.hid (HO9.out.trans k1)
        have Hz1 := Lib.hid HO1.out.size
        have HC0 : Hid ((w1.alloc (.cells #[iv (T : Nat)] 3)).cell? ⟨w1.heap.size, 0, none⟩ = some (iv (T : Nat))) := Lib.hid ((Box.new w1 3 #[iv (T : Nat)]).cell 0)
        clear r1 g1' m1 k1 hO1 H69 H79 HDt9
        go_wp2_with (at_builtin; refine app_int rfl (.tmp 67) (.tmp 70) rfl w.heap.size u6 (l.map (·.1)) rfl ?own1 w1.heap.size (T : Nat) rfl HC0.out HL1.out ?base1 ?rest1)
        case own1 => exact H61.out.nix ((Only.refl Nix w1).alloc _)
        case base1 => have := Hz1.out; simp; omega
        case rest1 =>
          intro v2 w2 r2 g2' m2
          have ka : Only Nix w1 (w1.alloc (.cells #[iv (T : Nat)] 3)) := (Only.refl Nix w1).alloc _
          have H62 := Lib.hid r2
          have H72 := Lib.hid ((H71.out.nix ka).kept (H61.out.nix ka) (by decide) g2')
          have HD2 := Lib.hid ((HD1.out.nix ka).kept (H61.out.nix ka) (by decide) g2')
          have HDt2 : Hid (∀ i, (h1 : i < ss.length) → (h2 : i < l.length) → Owns w2 w.heap.size 5 byt (slv ss[i]) l[i].2) := Lib.hid (fun i h1 h2 => ((HDt1.out i h1 h2).nix ka).kept (H61.out.nix ka) (by decide) g2')
          have HO2 := Lib.hid ((HO1.out.alloc (.cells #[iv (T : Nat)] 3)).grown g2' (fun k e => .inr (H61.out.lt e).1))
          have Hz2 := Lib.hid HO2.out.size
          have HC1 : Hid ((w2.alloc (.cells #[.slice A1 D.length c1] 22)).cell? ⟨w2.heap.size, 0, none⟩ = some (slv (A1, D.length, c1))) := Lib.hid ((Box.new w2 22 #[.slice A1 D.length c1]).cell 0)
          clear r2 g2' m2 ka H61 H71 HDt1 HD1
          go_wp2_with (at_builtin; refine app_sl rfl (.tmp 72) (.tmp 74) rfl w.heap.size u7 ss rfl ?own2 w2.heap.size (A1, D.length, c1) rfl HC1.out HL2.out ?base2 ?rest2)
          case own2 => exact H72.out.nix ((Only.refl Nix w2).alloc _)
          case base2 => have := Hz2.out; simp; omega
          case rest2 =>
            intro v3 w3 r3 g3' m3
            have ka : Only Nix w2 (w2.alloc (.cells #[.slice A1 D.length c1] 22)) := (Only.refl Nix w2).alloc _
            have H73 := Lib.hid r3
            have H63 : Hid (Owns w3 w.heap.size 3 iv v2 ((l ++ [((T : Int), D)]).map (·.1))) := Lib.hid (by
              rw [List.map_append]
              exact (H62.out.nix ka).kept (H72.out.nix ka) (by decide) g3')
            have HDt3 : Hid (∀ i, (h1 : i < (ss ++ [(A1, D.length, c1)]).length) → (h2 : i < (l ++ [((T : Int), D)]).length) → Owns w3 w.heap.size 5 byt (slv (ss ++ [(A1, D.length, c1)])[i]) (l ++ [((T : Int), D)])[i].2) := Lib.hid (fun i h1 h2 => by
              have hsl := HSl.out
              by_cases e : i < ss.length
              · rw [List.getElem_append_left e, List.getElem_append_left (by omega)]
                exact ((HDt2.out i e (by omega)).nix ka).kept (H72.out.nix ka) (by decide) g3'
              · have e0 : i = ss.length := by simp at h1; omega
                subst e0
                rw [List.getElem_append_right (Nat.le_refl _), List.getElem_append_right (by omega)]
                simp only [hsl, Nat.sub_self, List.getElem_cons_zero]
                exact (HD2.out.nix ka).kept (H72.out.nix ka) (by decide) g3')
            have HO3 := Lib.hid ((HO2.out.alloc (.cells #[.slice A1 D.length c1] 22)).grown g3' (fun k e => .inr (H72.out.lt e).1))
            have HSl3 : Hid ((ss ++ [(A1, D.length, c1)]).length = (l ++ [((T : Int), D)]).length) := Lib.hid (by simp; exact HSl.out)
            have HFb3 : Hid (∀ p ∈ l ++ [((T : Int), D)], (0 ≤ p.1 ∧ p.1 ≤ 127) ∧ p.2.length ≤ 100000 ∧ ∀ x ∈ p.2, x < 256) := Lib.hid (fun p hp => by
              rcases List.mem_append.1 hp with h | h
              · exact HFb.out p h
              · rw [List.mem_singleton.1 h]
                refine ⟨⟨by simp only; omega, by have := HT.out; simp only; omega⟩, ?_, HDlt.out⟩
                have := HDl.out
                have := Hok.out
                simp only
                omega)
            have H4l3 : Hid (4 * (l ++ [((T : Int), D)]).length ≤ s + (4 + S)) := Lib.hid (by have := H4l.out; simp; omega)
            clear r3 g3' m3 ka H62 H72 HDt2 HD2
            by_cases hl : 128 ≤ x0
            · rw [if_pos hl] at HR
              have hli := hx0i.out.1 hl
              have HZ := Lib.hid (HRk.out (l ++ [((T : Int), D)]) (s + (4 + S)) v2 v3 w3 HR.out.symm (H63.out.ints (by have := H4l3.out; have := Hok.out; rw [List.length_map]; omega) (fun x hx => by
                obtain ⟨p, hp, rfl⟩ := List.mem_map.1 hx
                have := (HFb3.out p hp).1
                omega)) (owns_lsrc H73.out (by rw [List.length_map]; exact HSl3.out) (by have := H4l3.out; have := Hok.out; have := HSl3.out; omega) (fun j h1 h2 => by
                rw [List.getElem_map]
                have h3 : j < (l ++ [((T : Int), D)]).length := by simpa using h2
                have h4 := HFb3.out _ (List.getElem_mem h3)
                exact (HDt3.out j h1 h3).csrc (by omega) h4.2.2)) HO3.out)
              go_wp2
              refine bodyPost_ret (results_tmp4 rfl _ _ _) rfl ?_
              have hat : (s : Int) + 4 + (S : Int) = ((s + (4 + S) : Nat) : Int) := by omega
              simp only [Array.getD_eq_getD_getElem?]
              first | exact HZ.out | (rw [← hat] at HZ; exact HZ.out) | trace_state
            · rw [if_neg hl] at HR
              have hli : ¬ (127 : Int) < (x0 : Int) := fun h => hl (hx0i.out.2 h)
              go_wp2
              go_roundw
              case rel => exact ⟨s + (4 + S), f, l ++ [((T : Int), D)], ss ++ [(A1, D.length, c1)], by go_num, Hok.out, H63.out, H73.out, HSl3.out, HDt3.out, H4l3.out, HFb3.out, HR.out, by have := Hfs.out; omega, HO3.out⟩
              case measure => simp [intOf]; omega
end Go.Proofs.Ytighdjbeddcckaa
