/-
  TagsGets: its walk.
-/
import Derived.Test.YtphpciglpnbblaaDoorTX
import Derived.Test.YtphpciglpnbblaaDoorTK
import Derived.Test.YtphpciglpnbblaaDoorTW1
namespace Go.Proofs.YtphpciglpnbblaaDoor
open Go.RowKit Go.Shelf

theorem sm_list : ∀ l : List UInt8, (∀ b ∈ l, b.toNat < 128) → (Lib.mapD smR l).map UInt8.toNat = l.map fun b => fo b.toNat
  | [], _ => rfl
  | b :: l, h => by
    have hb := h b (List.mem_cons_self ..)
    have ih := sm_list l (fun c hc => h c (List.mem_cons_of_mem _ hc))
    rw [Lib.mapD_step _ _ (by simp), Lib.decodeL_ascii b l hb]
    dsimp only
    have hf : smR (b.toNat : Int) = ((fo b.toNat : Nat) : Int) := by unfold smR fo; split <;> split <;> omega
    have hfo : fo b.toNat < 128 := by unfold fo; split <;> omega
    rw [hf, if_pos (by omega), List.drop_succ_cons, List.drop_zero, List.map_append, ih, List.map_cons]
    unfold Lib.encodeRune
    rw [Lib.encodeRuneZ_one (by omega) (by omega)]
    simp
    omega
theorem sm_nb (s : ByteArray) (h : ∀ x ∈ nb s, x < 128) : nb (smS s) = (nb s).map fo := by
  unfold smS nb
  rw [List.map_map]
  exact sm_list s.data.toList (fun b hb => h b.toNat (List.mem_map_of_mem hb))
theorem sm_same (s t : ByteArray) (hs : ∀ x ∈ nb s, x < 128) (ht : ∀ x ∈ nb t, x < 128) : smS s = smS t ↔ sameN s t := by
  unfold sameN
  rw [← sm_nb s hs, ← sm_nb t ht]
  exact ⟨fun h => by rw [h], nb_inj⟩
theorem isC_name {s : ByteArray} (h : isC s = true) : ∃ k : Nat, eqI s = k ∧ k < s.size ∧ cmE s = k ∧ ptN s = s.extract 0 k ∧ ptV s = s.extract (k + 1) s.size ∧ ∀ x ∈ nb (s.extract 0 k), x < 128 := by
  obtain ⟨k, h1, h2, h3⟩ := isC_pos h
  refine ⟨k, h1, h3, by unfold cmE; rw [if_pos h, h1], by unfold ptN; rw [h1, if_neg (by omega)]; rfl, by unfold ptV; rw [h1, if_neg (by omega)]; rfl, fun x hx => ?_⟩
  unfold isC at h
  rw [h1, Bool.and_eq_true, Bool.and_eq_true] at h
  have h4 := List.all_eq_true.1 h.1.2 x hx
  unfold nmB at h4
  simp at h4
  omega
/-- one comment more, as the statement has it -/
theorem gt_step (nm : ByteArray) (l : List ByteArray) (s : ByteArray) (hn : ∀ x ∈ nb nm, x < 128) : gtL nm (l ++ [s]) = gtL nm l ++ (if isC s = true ∧ sameN (s.extract 0 (cmE s).toNat) nm then [s.extract ((cmE s).toNat + 1) s.size] else []) := by
  rw [gtL_snoc]
  congr 1
  by_cases h : isC s = true
  · obtain ⟨k, h1, h2, h3, h4, h5, h6⟩ := isC_name h
    have hsm := sm_same (s.extract 0 k) nm h6 hn
    rw [h3, h4, h5, show (k : Int).toNat = k from rfl]
    by_cases h7 : sameN (s.extract 0 k) nm
    · rw [if_pos ⟨h, hsm.2 h7⟩, if_pos ⟨h, h7⟩]
    · rw [if_neg (fun e => h7 (hsm.1 e.2)), if_neg (fun e => h7 e.2)]
  · rw [if_neg (fun e => h e.1), if_neg (fun e => h e.1)]
theorem few_sz {V : ByteArray} {l : List ByteArray} (h : fewC V l) : 8 + V.size + szL l ≤ 80000 := by
  have key : ∀ l : List ByteArray, (∀ s ∈ l, s.size ≤ 200) → szL l ≤ 204 * l.length := fun l => by
    induction l with
    | nil => intro _; simp [szL]
    | cons s l ih =>
      intro h
      have h1 := h s (List.mem_cons_self ..)
      have h2 := ih (fun t ht => h t (List.mem_cons_of_mem _ ht))
      have h3 : szL (s :: l) = 4 + s.size + szL l := by simp [szL]
      rw [h3, List.length_cons]
      omega
  have h1 := key l h.1
  have h2 := h.2.1
  have h3 := h.2.2
  omega
def GnRel (w : World) (nm : ByteArray) (s7 : Value) (wr : World) : Prop := ∃ i : Nat, i ≤ nm.size ∧ s7 = iv i ∧ (∀ x ∈ (nb nm).take i, x < 128) ∧ Only Nix w wr
def GwRel (w1 : World) (nm : ByteArray) (l : List ByteArray) (s10 s11 : Value) (wr : World) : Prop := ∃ j : Nat, j ≤ l.length ∧ s11 = iv j ∧ Owns wr w1.heap.size 9 Value.string s10 (gtL nm (l.take j)) ∧ Only Nix w1 wr
theorem str_to (s : ByteArray) (k : Nat) (h : k ≤ s.size) (u : World) : (Instr.slice 9 (.string s) none (some (.int .i64 (k : Int))) none).run Tryd.prog u = .ok (.string (s.extract 0 k)) u := by
  rw [run_slice_string_h u 9 s Tryd.underlying9 .i64 k (by omega) (by omega)]
  rfl
theorem str_from (s : ByteArray) (k : Nat) (h : k + 1 ≤ s.size) (u : World) : (Instr.slice 9 (.string s) (some (.int .i64 ((k : Int) + 1))) none none).run Tryd.prog u = .ok (.string (s.extract (k + 1) s.size)) u := by
  rw [run_slice_string_l u 9 s Tryd.underlying9 .i64 ((k : Int) + 1) (by omega) (by omega)]
  rfl
set_option maxRecDepth 100000 in
set_option maxHeartbeats 16000000 in
theorem gets_any {w : World} {V nm : ByteArray} {x y : Value} {l m : List ByteArray} (hx : SSrc w x l) (hy : SSrc w y m) (hV : V.size ≤ 9223372036854775807) (hl : ∀ s ∈ l, s.size ≤ 9223372036854775807) (hnm : nm.size ≤ 9223372036854775807) (hT : Tabs w) :
    Calls Tryd.prog 6 #[cmV V x, .string nm, y] w fun e w' => e = .returned (.bool true) ∧ Only Nix w w' := by
  obtain ⟨A, c, rfl, _⟩ := hx.slice
  obtain ⟨B, d, rfl, _⟩ := hy.slice
  obtain ⟨W1, hW1⟩ : ∃ W1, w.alloc (.cells #[.string V, .slice A l.length c] 24) = W1 := ⟨_, rfl⟩
  have b1 := Box.new w 24 #[.string V, .slice A l.length c]
  have o1 := (Only.refl Nix w).alloc (.cells #[.string V, .slice A l.length c] 24)
  rw [hW1] at b1 o1
  have c0 := b1.cell 0
  have c1 := b1.cell 1
  simp only [List.getElem?_toArray, List.getElem?_cons_zero, List.getElem?_cons_succ] at c0 c1
  have HX := Lib.hid (hx.nix o1)
  have HY := Lib.hid (hy.nix o1)
  have HO1 := Lib.hid o1
  have HB1 := Lib.hid b1
  have HT := Lib.hid (hT.nix o1)
  have hsy := hy.small
  have HFw := Lib.hid (few_any (V := V) HX.out hV hl)
  have HAw : Hid (∀ u, Only Nix W1 u → Calls Tryd.prog 8 #[] u fun e w' => e = .returned (.bool true) ∧ Only Nix u w') := Lib.hid (fun u hu => awake_any (HT.out.nix hu))
  obtain ⟨b2, hb2⟩ : ∃ b2, w.heap.size = b2 := ⟨_, rfl⟩
  rw [hb2] at c0 c1 HB1
  have Hb2 := Lib.hid hb2
  clear hx hy b1 o1 hT hl hV
  by_cases hfw : fewC V l
  · rw [decide_eq_true hfw] at HFw
    have hz := few_sz hfw
    have hl20 : l.length ≤ 20 := hfw.2.1
    have hla : ∀ s ∈ l, s.size ≤ 200 := hfw.1
    clear hfw
    by_cases hm20 : m.length ≤ 20
    · have hm20i : ¬ (20 : Int) < (m.length : Int) := by omega
      by_cases hn100 : nm.size ≤ 100
      · have hn100i : ¬ (100 : Int) < (nm.size : Int) := by omega
        have HNl : Hid ((nb nm).take nm.size = nb nm) := Lib.hid (List.take_of_length_le (by rw [nb_len]; exact Nat.le_refl _))
        have HWr : Hid (∀ u, Only Nix W1 u → Calls Tryd.prog 9 #[.agg #[.string V, .slice A l.length c]] u fun e w' => WtR u (ckE V l) (wrC V l) e w') := Lib.hid (fun u hu => write_any (V := V) (HX.out.nix hu) hz (HT.out.nix hu))
        have HGt : Hid (∀ u, Only Nix W1 u → Calls Tryd.prog 23 #[.agg #[.string V, .slice A l.length c], .string nm] u fun e w' => GtR u (gtL nm l) e w') := Lib.hid (fun u hu => get_any (V := V) (HX.out.nix hu) (by omega) (by omega) (fun s hs => by have := hla s hs; omega) (HT.out.nix hu))
        have HWi : Hid (∀ u, Only Nix W1 u → Calls Tryd.prog 22 #[.agg #[.string V, .slice A l.length c], .slice B m.length d] u fun e w' => WtP u V (l ++ m) e w') := Lib.hid (fun u hu => with_any (V := V) (HX.out.nix hu) (HY.out.nix hu) (by omega) (by omega))
        have HCm : Hid (∀ u, ∀ s ∈ l, Calls Tryd.prog 20 #[.string s] u fun e w' => e = .returned (iv (cmE s)) ∧ u = w') := Lib.hid (fun u s hs => comment13_any s (by have := hla s hs; omega))
        have HSm : Hid (∀ u, ∀ s ∈ l, ∀ k, k ≤ s.size → Calls Tryd.prog 21 #[.string (s.extract 0 k), .string nm] u fun e w' => e = .returned (.bool (decide (sameN (s.extract 0 k) nm))) ∧ Only Nix u w') := Lib.hid (fun u s hs k hk => same_any _ _ (by
          rw [← nb_len, nb_extract, List.length_drop, List.length_take, nb_len]
          have := hla s hs
          omega) (by omega))
        have HTl : Hid (l.take l.length = l) := Lib.hid (List.take_length)
        have HGl : Hid (∀ j, j ≤ l.length → (gtL nm (l.take j)).length ≤ 20) := Lib.hid (fun j hj => by have := gtL_len nm (l.take j); rw [List.length_take] at this; omega)
        have Hl20 := Lib.hid hl20
        have Hm20 := Lib.hid hm20
        have HLs : Hid (∀ s ∈ l, s.size ≤ 200) := Lib.hid hla
        clear hz hla
        go_enter Tryd.func6, Tryd.ntmps6
        go_wp2_with fail
        refine (HFw.out).mono ?_
        rintro e w2 ⟨rfl, ho⟩
        have HO2 := Lib.hid ho
        clear ho
        go_wp2
        go_loopw [7] (fun s7 wr => GnRel W1 nm s7 wr) (fun s7 _ => nm.size - (intOf s7).toNat)
        case atStart => exact ⟨0, Nat.zero_le _, rfl, fun x hx => by simp at hx, HO2.out⟩
        case round =>
          obtain ⟨i, hi, rfl, hasc, ho⟩ := hrel
          have HAs := Lib.hid hasc
          have HO := Lib.hid ho
          clear hasc
          by_cases hlt : i < nm.size
          · have hlti : (i : Int) < (nm.size : Int) := by omega
            obtain ⟨ch, hch⟩ : ∃ ch, nm.get! i = ch := ⟨_, rfl⟩
            have hgx : ∀ h : i < nm.size, nm[i]'h = ch := fun h => by rw [← hch]; exact (Utf8W.get!_of_lt nm i h).symm
            have HX1 : Hid ((nb nm).take (i + 1) = (nb nm).take i ++ [ch.toNat]) := Lib.hid (by rw [List.take_add_one, nb_at nm i hlt, hch]; rfl)
            have HAi := Lib.hid (HAw.out wr ho)
            clear hch ho
            by_cases h127 : 127 < ch.toNat
            · have h127i : (127 : Int) < (ch.toNat : Int) := by omega
              go_wp2_with fail
              refine (HAi.out).mono ?_
              rintro e w3 ⟨rfl, ho⟩
              have HO3 := Lib.hid (HO1.out.trans (HO.out.trans ho))
              clear ho
              go_wp2
              go_ret
              exact ⟨rfl, HO3.out⟩
            · have h127i : ¬ (127 : Int) < (ch.toNat : Int) := by omega
              go_wp2
              go_roundw
              case rel => exact ⟨i + 1, hlt, by go_num, fun x hx => by
                rw [HX1.out] at hx
                rcases List.mem_append.1 hx with h | h
                · exact HAs.out x h
                · rw [List.mem_singleton.1 h]; omega, HO.out⟩
              case measure => simp [intOf]; omega
          · have hd : decide (i < nm.size) = false := by simp; omega
            obtain rfl : i = nm.size := by omega
            have HAsc : Hid (∀ x ∈ nb nm, x < 128) := Lib.hid (by have h := HAs.out; rw [HNl.out] at h; exact h)
            have HWn := Lib.hid (HWr.out wr ho)
            have k0 := cell_keep ho c0
            have k1 := cell_keep ho c1
            clear ho c0 c1 HAs HWr
            have hck := ckE_cases V l
            generalize ckE V l = E at *
            generalize wrC V l = WB at *
            unfold WtR at HWn
            go_wp2_with fail
            refine (HWn.out).mono ?_
            rintro e w3 ⟨⟨v3, rfl, _⟩, ho⟩
            have HO3 := Lib.hid (HO.out.trans ho)
            have c0 := cell_keep ho k0
            have c1 := cell_keep ho k1
            have HA3 := Lib.hid (HAw.out w3 HO3.out)
            clear ho k0 k1
            rcases hck with rfl | rfl
            · go_wp2
              go_loopw [10, 11] (fun s10 s11 wr => GwRel W1 nm l s10 s11 wr) (fun _ s11 _ => l.length - (intOf s11).toNat)
              case atStart => exact ⟨0, Nat.zero_le _, rfl, Owns.nil _ _ _ _, HO3.out⟩
              case round =>
                obtain ⟨j, hj, rfl, hown, ho⟩ := hrel
                have HW := Lib.hid hown
                have HOj := Lib.hid ho
                have hbj := HB1.out.only ho (fun e => e)
                have k0 := hbj.cell 0
                have k1 := hbj.cell 1
                simp only [List.getElem?_toArray, List.getElem?_cons_zero, List.getElem?_cons_succ] at k0 k1
                clear c0 c1 hbj
                by_cases hlt : j < l.length
                · obtain ⟨ad, rfl, hx⟩ := (HX.out.nix ho).at_ hlt
                  have hlti : (j : Int) < (l.length : Int) := by omega
                  have HTk := Lib.hid (List.take_succ_eq_append_getElem hlt)
                  have HM := Lib.hid (List.getElem_mem hlt)
                  have HLj := Lib.hid (HGl.out j hj)
                  generalize l[j] = s at *
                  have HSt := Lib.hid (gt_step nm (l.take j) s HAsc.out)
                  have HCj := Lib.hid (HCm.out wr s HM.out)
                  have hs200 := HLs.out s HM.out
                  clear hown ho
                  by_cases hC : isC s = true
                  · obtain ⟨k, e1, e2, e3, _, _, _⟩ := isC_name hC
                    have HSj := Lib.hid (fun u => HSm.out u s HM.out k (by omega))
                    rw [e3] at HCj HSt
                    rw [show (k : Int).toNat = k from rfl] at HSt
                    have hs0 := str_to s k (by omega)
                    have hs1 := str_from s k (by omega)
                    clear e1 e3
                    generalize s.extract 0 k = S0 at *
                    generalize s.extract (k + 1) s.size = S1 at *
                    have hkw : IntKind.i64.wrap ((k : Int) + 1) = (k : Int) + 1 := wraps_i64 _ (by omega) (by omega)
                    have hk0 : (0 : Int) ≤ (k : Int) := by omega
                    go_wp2_with fail
                    refine (HCj.out).mono ?_
                    rintro e w4 ⟨rfl, rfl⟩
                    have HSj4 := Lib.hid (HSj.out wr)
                    by_cases hS : sameN S0 nm
                    · have HSk : Hid (gtL nm (l.take j ++ [s]) = gtL nm (l.take j) ++ [S1]) := Lib.hid (by rw [HSt.out, if_pos ⟨hC, hS⟩])
                      rw [decide_eq_true hS] at HSj4
                      go_wp2_with fail
                      refine (HSj4.out).mono ?_
                      rintro e w5 ⟨rfl, ho⟩
                      have HO5 := Lib.hid (HOj.out.trans ho)
                      have HW5 := Lib.hid (HW.out.nix ho)
                      have m0 := cell_keep ho k0
                      have m1 := cell_keep ho k1
                      have hx5 := cell_keep ho hx
                      clear ho k0 k1 hx
                      go_wp2_with (at_builtin; refine app_text rfl (.tmp 74) (.tmp 83) rfl W1.heap.size u10 (gtL nm (l.take j)) rfl ?own1 w5.heap.size S1 rfl ((Box.new w5 _ _).cell 0) ?len1 ?base1 ?rest1)
                      case own1 => exact HW5.out.nix ((Only.refl Nix w5).alloc _)
                      case len1 => have := HLj.out; omega
                      case base1 => have := HO5.out.size; simp; omega
                      case rest1 =>
                        intro v6 w6 h6 g6 m6
                        have HW6 := Lib.hid h6
                        have HO6 : Hid (Only Nix W1 w6) := Lib.hid ((HO5.out.alloc _).grown g6 (fun k hk => .inr (HW5.out.lt hk).1))
                        clear h6 g6 m6
                        go_wp2
                        go_roundw
                        case rel => exact ⟨j + 1, hlt, by go_num, by rw [HTk.out, HSk.out]; exact HW6.out, HO6.out⟩
                        case measure => simp [intOf]; omega
                    · have HSk : Hid (gtL nm (l.take j ++ [s]) = gtL nm (l.take j)) := Lib.hid (by rw [HSt.out, if_neg (fun h => hS h.2), List.append_nil])
                      rw [decide_eq_false hS] at HSj4
                      go_wp2_with fail
                      refine (HSj4.out).mono ?_
                      rintro e w5 ⟨rfl, ho⟩
                      have HO5 := Lib.hid (HOj.out.trans ho)
                      have HW5 := Lib.hid (HW.out.nix ho)
                      clear ho k0 k1 hx
                      go_wp2
                      go_roundw
                      case rel => exact ⟨j + 1, hlt, by go_num, by rw [HTk.out, HSk.out]; exact HW5.out, HO5.out⟩
                      case measure => simp [intOf]; omega
                  · have HSk : Hid (gtL nm (l.take j ++ [s]) = gtL nm (l.take j)) := Lib.hid (by rw [HSt.out, if_neg (fun h => hC h.1), List.append_nil])
                    have hcm : cmE s = -1 := by unfold cmE; rw [if_neg hC]
                    rw [hcm] at HCj
                    clear hcm HSt
                    go_wp2_with fail
                    refine (HCj.out).mono ?_
                    rintro e w4 ⟨rfl, rfl⟩
                    go_wp2
                    go_roundw
                    case rel => exact ⟨j + 1, hlt, by go_num, by rw [HTk.out, HSk.out]; exact HW.out, HOj.out⟩
                    case measure => simp [intOf]; omega
                · have hd : decide (j < l.length) = false := by simp; omega
                  have HWj : Hid (Owns wr W1.heap.size 9 Value.string u10 (gtL nm l)) := Lib.hid (by
                    have h := HW.out
                    rw [show j = l.length by omega, HTl.out] at h
                    exact h)
                  have HGn : Hid ((gtL nm l).length ≤ 20) := Lib.hid (by have := gtL_len nm l; have := Hl20.out; omega)
                  have HWj2 := Lib.hid (HWi.out wr HOj.out)
                  clear hown ho
                  have HWs := Lib.hid (HWj.out.texts (by have := HGn.out; omega))
                  obtain ⟨Aw, cw, rfl⟩ := HWj.out.slice
                  unfold WtP at HWj2
                  go_wp2_with fail
                  refine (HWj2.out).mono ?_
                  rintro e w4 ⟨⟨x4, rfl, hx4⟩, ho⟩
                  obtain ⟨A4, c4, rfl, _⟩ := hx4.slice
                  have o5 := ho.alloc (.cells #[.string V, .slice A4 (l ++ m).length c4] 24)
                  have b5 := Box.new w4 24 #[.string V, .slice A4 (l ++ m).length c4]
                  have hx5 := hx4.nix ((Only.refl Nix w4).alloc (.cells #[.string V, .slice A4 (l ++ m).length c4] 24))
                  obtain ⟨W5, hW5⟩ : ∃ W5, w4.alloc (.cells #[.string V, .slice A4 (l ++ m).length c4] 24) = W5 := ⟨_, rfl⟩
                  rw [hW5] at o5 b5 hx5
                  have HO5 := Lib.hid (HOj.out.trans o5)
                  have HB5 := Lib.hid b5
                  have HX5 := Lib.hid hx5
                  have HW5 := Lib.hid (HWs.out.nix o5)
                  have m0 := cell_keep o5 k0
                  have m1 := cell_keep o5 k1
                  obtain ⟨b13, hb13⟩ : ∃ b13, w4.heap.size = b13 := ⟨_, rfl⟩
                  rw [hb13] at HB5
                  obtain ⟨LM, hLM⟩ : ∃ LM, l ++ m = LM := ⟨_, rfl⟩
                  have HLM := Lib.hid hLM
                  rw [hLM] at HX5 HB5 hW5
                  rw [hLM]
                  generalize hLMn : LM.length = nLM at *
                  have HLn := Lib.hid hLMn
                  clear ho o5 b5 hx5 hx4 k0 k1 hLM hLMn
                  go_wp2_with (at_builtin; refine app_texts rfl (.tmp 88) (.tmp 90) rfl W5.heap.size (.slice none 0 0) [] rfl (Owns.nil _ _ _ _) A l.length c l rfl (HX.out.nix HO5.out) ?len1 (Nat.le_refl _) ?rest1)
                  case len1 => simp; omega
                  case rest1 =>
                    intro v6 w6 h6 g6 m6
                    have HW6 := Lib.hid h6
                    have hO6 : Only Nix W5 w6 := (Only.refl Nix W5).grown g6 (fun k hk => by cases hk)
                    have HO6 := Lib.hid hO6
                    clear h6 g6 m6 hO6
                    go_wp2_with (at_builtin; refine app_texts rfl (.tmp 92) (.tmp 93) rfl W5.heap.size v6 l rfl (by simpa using HW6.out) B m.length d m rfl (HY.out.nix (HO5.out.trans HO6.out)) ?len2 HO6.out.size ?rest2)
                    case len2 => have := Hl20.out; have := Hm20.out; omega
                    case rest2 =>
                      intro v7 w7 h7 g7 m7
                      have hO7 : Only Nix W5 w7 := HO6.out.grown g7 (fun k hk => .inr (HW6.out.lt hk).1)
                      have HO7 := Lib.hid hO7
                      have HA7 : Hid (SSrc w7 v7 LM) := Lib.hid (by rw [← HLM.out]; exact h7.texts (by rw [List.length_append]; have := Hl20.out; have := Hm20.out; omega))
                      obtain ⟨A7, c7, rfl, _⟩ := HA7.out.slice
                      rw [HLn.out] at HA7
                      rw [HLn.out]
                      have k0 := cell_keep hO7 m0
                      have k1 := cell_keep hO7 m1
                      have HG7 := Lib.hid (HGt.out w7 (HO5.out.trans hO7))
                      clear h7 g7 m7 m0 m1 hO7
                      go_wp2_with fail
                      refine (HG7.out).mono ?_
                      rintro e w8 ⟨⟨v8, rfl, h8⟩, ho⟩
                      have HO8 := Lib.hid (HO7.out.trans ho)
                      have HT8 := Lib.hid (texts_at (h8.texts (by have := HGn.out; omega)) (HW5.out.nix HO8.out))
                      have HA8 := Lib.hid (HA7.out.nix ho)
                      clear h8 ho k0 k1
                      go_wp2_with fail
                      refine (HT8.out).mono ?_
                      rintro e w9 ⟨rfl, ho⟩
                      have HO9 := Lib.hid (HO8.out.trans ho)
                      have hb9 := HB5.out.only HO9.out (fun e => e)
                      have q0 := hb9.cell 0
                      have q1 := hb9.cell 1
                      have hc9 := HB1.out.only (HO5.out.trans HO9.out) (fun e => e)
                      have r0 := hc9.cell 0
                      have r1 := hc9.cell 1
                      simp only [List.getElem?_toArray, List.getElem?_cons_zero, List.getElem?_cons_succ] at q0 q1 r0 r1
                      have HT9 := Lib.hid (texts_at (HX5.out.nix HO9.out) (HA8.out.nix ho))
                      clear ho hb9 hc9
                      go_wp2_with fail
                      refine (HT9.out).mono ?_
                      rintro e w10 ⟨rfl, ho⟩
                      have HO10 := Lib.hid (HO5.out.trans (HO9.out.trans ho))
                      have HA10 := Lib.hid (HAw.out w10 HO10.out)
                      clear ho q0 q1 r0 r1
                      go_wp2_with fail
                      refine (HA10.out).mono ?_
                      rintro e w11 ⟨rfl, ho⟩
                      have HO11 := Lib.hid (HO1.out.trans (HO10.out.trans ho))
                      clear ho
                      go_wp2
                      go_ret
                      exact ⟨rfl, HO11.out⟩
            · go_wp2_with fail
              refine (HA3.out).mono ?_
              rintro e w4 ⟨rfl, ho⟩
              have HO4 := Lib.hid (HO1.out.trans (HO3.out.trans ho))
              clear ho
              go_wp2
              go_ret
              exact ⟨rfl, HO4.out⟩
      · have hn100i : (100 : Int) < (nm.size : Int) := by omega
        clear hz hla
        go_enter Tryd.func6, Tryd.ntmps6
        go_wp2_with fail
        refine (HFw.out).mono ?_
        rintro e w2 ⟨rfl, ho⟩
        have HO2 := Lib.hid (HO1.out.trans ho)
        have HA2 := Lib.hid (HAw.out w2 ho)
        clear ho
        go_wp2_with fail
        refine (HA2.out).mono ?_
        rintro e w3 ⟨rfl, ho⟩
        have HO3 := Lib.hid (HO2.out.trans ho)
        clear ho
        go_wp2
        go_ret
        exact ⟨rfl, HO3.out⟩
    · have hm20i : (20 : Int) < (m.length : Int) := by omega
      clear hz hla
      go_enter Tryd.func6, Tryd.ntmps6
      go_wp2_with fail
      refine (HFw.out).mono ?_
      rintro e w2 ⟨rfl, ho⟩
      have HO2 := Lib.hid (HO1.out.trans ho)
      have HA2 := Lib.hid (HAw.out w2 ho)
      clear ho
      go_wp2_with fail
      refine (HA2.out).mono ?_
      rintro e w3 ⟨rfl, ho⟩
      have HO3 := Lib.hid (HO2.out.trans ho)
      clear ho
      go_wp2
      go_ret
      exact ⟨rfl, HO3.out⟩
  · rw [decide_eq_false hfw] at HFw
    go_enter Tryd.func6, Tryd.ntmps6
    go_wp2_with fail
    refine (HFw.out).mono ?_
    rintro e w2 ⟨rfl, ho⟩
    have HO2 := Lib.hid (HO1.out.trans ho)
    have HA2 := Lib.hid (HAw.out w2 ho)
    clear ho
    go_wp2_with fail
    refine (HA2.out).mono ?_
    rintro e w3 ⟨rfl, ho⟩
    have HO3 := Lib.hid (HO2.out.trans ho)
    clear ho
    go_wp2
    go_ret
    exact ⟨rfl, HO3.out⟩
end Go.Proofs.YtphpciglpnbblaaDoor
