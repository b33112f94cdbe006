/-
  BlocksTurns: its walk.
-/
import Derived.Test.YtighdjbeddcckaaDoorWH
import Derived.Test.YtighdjbeddcckaaDoorWI
namespace Go.Proofs.YtighdjbeddcckaaDoor
open Go.RowKit Go.Shelf

theorem OwnB.one (w : World) (base : Nat) (hb : base ≤ w.heap.size) (t : Int) (d : Value) : OwnB (w.alloc (.cells #[iv t, d] 38)) base (.slice (some ⟨w.heap.size, 0, none⟩) 1 1) [(t, d)] :=
  ⟨rfl, .inr ⟨w.heap.size, 1, #[iv t, d], rfl, hb, Box.new w _ _, Nat.le_refl 1, by decide, rfl, rfl⟩⟩
def TnR (w : World) (p : Bk) (r : List Bk) (s n : Nat) (s6 s7 : Value) (wr : World) : Prop := ∃ (i : Nat) (xs : List (Int × Value)), i ≤ n ∧ s7 = iv i ∧ OwnB wr w.heap.size s6 xs ∧ xs.length = i + 1 ∧ Mt w xs (p :: (tn r s).take i) ∧ Only Nix w wr
set_option maxRecDepth 100000 in
set_option maxHeartbeats 8000000 in
theorem turns_any {w : World} {v : Value} {l : List Bk} (f : Int) (hs : BSrc w v l) :
    Calls Tryd.prog 4 #[v, iv f] w fun e w' => e = .returned (.bool true) ∧ Only Nix w w' := by
  obtain ⟨A, c, rfl⟩ := hs.slice
  have hsm := hs.small
  have HFw := Lib.hid (few_any hs)
  have HAw : Hid (∀ u, Calls Tryd.prog 6 #[] u fun e w' => e = .returned (.bool true) ∧ Only Nix u w') := Lib.hid awake_any
  have HS := Lib.hid hs
  obtain ⟨L, hL⟩ : ∃ L, l.length = L := ⟨_, rfl⟩
  rw [hL] at HFw HS hsm ⊢
  clear hs
  by_cases hfw : fewB l
  · rw [decide_eq_true hfw] at HFw
    by_cases h2 : 2 ≤ L
    · obtain ⟨p, r, hl⟩ : ∃ p r, l = p :: r := by
        cases l with
        | nil => simp at hL; omega
        | cons p r => exact ⟨p, r, rfl⟩
      obtain ⟨n, rfl⟩ : ∃ n, L = n + 1 := ⟨L - 1, by omega⟩
      have hr : r.length = n := by rw [hl] at hL; simpa using hL
      have hn12 : n ≤ 11 := by have := hfw.2; omega
      have hn1 : 1 ≤ n := by omega
      have hT := turn_is f n (by omega)
      obtain ⟨s, hsn⟩ : ∃ s : Nat, f % (n : Int) = (s : Int) := ⟨(f % (n : Int)).toNat, by have := Int.emod_nonneg f (show (n : Int) ≠ 0 by omega); omega⟩
      have hslt : s < n := by have := Int.emod_lt_of_pos f (show (0 : Int) < n by omega); omega
      rw [hsn] at hT
      have hb1 : -(n : Int) < f.tmod n := Int.lt_tmod_of_pos f (by omega)
      have hb2 : f.tmod n < n := Int.tmod_lt_of_pos f (by omega)
      obtain ⟨T, hTT⟩ : ∃ T, f.tmod (n : Int) = T := ⟨_, rfl⟩
      rw [hTT] at hT hb1 hb2
      obtain ⟨ad, B0, d0, rfl, x0, y0, z0, cs0⟩ := HS.out.at_ (k := 0) (by omega)
      have g0 : l[0]'(by omega) = p := by simp [hl]
      have e0 : ad.add (0 * 2) = ad := rfl
      rw [g0, e0] at x0 y0
      rw [g0] at cs0
      have HX0 := Lib.hid x0
      have HY0 := Lib.hid y0
      have HC0 := Lib.hid cs0
      have HAt : Hid (∀ i, i < n → ∃ (q : Nat) (b : Bk) (B : Option Addr) (d : Nat), q < n ∧ ((s : Int) + (i : Int)).tmod n = (q : Int) ∧ (tn r s)[i]? = some b ∧ w.cell? (ad.add ((1 + q) * 2)) = some (iv b.1) ∧ w.cell? ⟨(ad.add ((1 + q) * 2)).block, (ad.add ((1 + q) * 2)).off + 1, none⟩ = some (.slice B b.2.length d) ∧ CSrc w (.slice B b.2.length d) b.2) := Lib.hid (fun i hi => by
        have hq : (s + i) % n < n := Nat.mod_lt _ (by omega)
        obtain ⟨ad', B, d, e, x, y, _, z⟩ := HS.out.at_ (k := 1 + (s + i) % n) (by omega)
        injection e with e
        subst e
        refine ⟨(s + i) % n, l[1 + (s + i) % n]'(by omega), B, d, hq, by rw [Int.tmod_eq_emod_of_nonneg (by omega), Int.natCast_emod, Int.natCast_add], ?_, x, y, z⟩
        rw [tn_at r s i (by omega) (by omega), hr]
        simp [hl, Nat.add_comm 1, List.getElem?_eq_getElem (show (s + i) % n < r.length by omega)])
      clear x0 y0 cs0 e0 g0 z0 hsn
      go_enter Tryd.func4, Tryd.ntmps4
      go_wp2_with fail
      refine (HFw.out).mono ?_
      rintro e w2 ⟨rfl, o2⟩
      have HO2 := Lib.hid o2
      have hx := cell_keep HO2.out HX0.out
      have hy := cell_keep HO2.out HY0.out
      clear o2
      go_wp2_with fail
      have HOn : Hid (OwnB (w2.alloc (.cells #[iv p.1, .slice B0 p.2.length d0] 38)) w.heap.size (.slice (some ⟨w2.heap.size, 0, none⟩) 1 1) [(p.1, .slice B0 p.2.length d0)]) := Lib.hid (OwnB.one w2 _ HO2.out.size _ _)
      have HM0 : Hid (Mt w [(p.1, .slice B0 p.2.length d0)] (p :: (tn r s).take 0)) := Lib.hid (Mt.snoc (xs := []) (l := []) ⟨rfl, fun j h => by simp at h⟩ HC0.out)
      have HOs := Lib.hid (HO2.out.alloc (.cells #[iv p.1, .slice B0 p.2.length d0] 38))
      have HOd : Hid (odE (p :: tn r s) = odE l) := Lib.hid (by rw [hl]; exact odE_perm (tn_perm r s))
      have HLn : Hid ((tn r s).take n = tn r s) := Lib.hid (List.take_of_length_le (by rw [tn_len]; omega))
      have HFt : Hid (∀ x ∈ (p :: tn r s), -9223372036854775808 ≤ x.1 ∧ x.1 ≤ 9223372036854775807) := Lib.hid (fun x hx => HS.out.fits x (by
        rw [hl]
        rcases List.mem_cons.1 hx with h | h
        · exact List.mem_cons.2 (.inl h)
        · exact List.mem_cons.2 (.inr ((tn_perm r s).mem_iff.1 h))))
      have HTl : Hid ((p :: tn r s).length = n + 1) := Lib.hid (by rw [List.length_cons, tn_len, hr])
      clear hx hy hl hL hr hfw h2
      go_loopw [6, 7] (fun s6 s7 wr => TnR w p r s n s6 s7 wr) (fun _ s7 _ => n - (intOf s7).toNat)
      case atStart => exact ⟨0, _, Nat.zero_le _, rfl, HOn.out, rfl, HM0.out, HOs.out⟩
      case round =>
        obtain ⟨i, xs, hi, rfl, hown, hxl, hmt, ho⟩ := hrel
        obtain ⟨V, rfl⟩ : ∃ V, V = wr := ⟨_, rfl⟩
        have HW := Lib.hid hown
        have HOi := Lib.hid ho
        have HMt := Lib.hid hmt
        have HXl := Lib.hid hxl
        clear hown hmt hxl
        by_cases hlt : i < n
        · have hlti : (i : Int) < (n : Int) := by omega
          obtain ⟨q, b, B, d, hq, hqt, htn, x, y, cs⟩ := HAt.out i hlt
          obtain ⟨t, bs⟩ := b
          simp only at x y cs
          have hx := cell_keep ho x
          have hy := cell_keep ho y
          have HCs := Lib.hid cs
          have HTk : Hid (p :: (tn r s).take (i + 1) = (p :: (tn r s).take i) ++ [(t, bs)]) := Lib.hid (by rw [List.take_add_one, htn]; rfl)
          generalize bs.length = m at *
          clear x y cs htn ho
          go_wp2_with (at_builtin; refine app_block rfl (.tmp 29) (.tmp 45) rfl w.heap.size u6 xs rfl (HW.out.nix ((Only.refl Nix V).alloc _)) V.heap.size t (.slice B m d) rfl ((Box.new V _ _).cell 0) ((Box.new V _ _).cell 1) rfl ?len1 ?base1 ?rest1)
          case len1 => have := HXl.out; omega
          case base1 => have := HOi.out.size; simp; omega
          case rest1 =>
            intro v5 w5 r5 g5 m5
            have HR5 := Lib.hid r5
            have HO6 := Lib.hid ((HOi.out.alloc (.cells #[iv t, .slice B m d] 38)).grown g5 (fun k hk => .inr (HW.out.lt hk).1))
            clear r5 g5 m5
            go_wp2
            go_roundw
            case rel => exact ⟨i + 1, xs ++ [(t, .slice B m d)], hlt, by go_num, HR5.out, by have := HXl.out; simp; omega, by rw [HTk.out]; exact HMt.out.snoc HCs.out, HO6.out⟩
            case measure => simp [intOf]; omega
        · obtain rfl : i = n := by omega
          obtain ⟨g, c6, cur, rfl, _, hle6, _, _, _, _⟩ := HW.out.pos (by have := HXl.out; omega)
          have hmf : Mf w V g xs (p :: tn r s) := by
            have h := HMt.out
            rw [HLn.out] at h
            exact ⟨h.1, fun j h1 h2 => ⟨(h.2 j h1 h2).1, .inl (h.2 j h1 h2).2⟩⟩
          have hbs := ownB_src HW.out hmf HOi.out (by rw [HTl.out]; exact HXl.out) hle6 (by rw [HTl.out]; omega) HFt.out
          have HO1 := Lib.hid (order_any hbs)
          have HO2b : Hid (∀ u, Only Nix V u → Calls Tryd.prog 11 #[.slice (some ad) (i + 1) c] u fun e w' => e = .returned (iv (odE l)) ∧ Only Nix u w') := Lib.hid (fun u hu => order_any (HS.out.nix (HOi.out.trans hu)))
          rw [HOd.out] at HO1
          generalize odE l = E at *
          clear hbs hmf ho
          go_wp2_with fail
          refine (HO1.out).mono ?_
          rintro e w5 ⟨rfl, o5⟩
          have HU5 := Lib.hid o5
          have HN5 := Lib.hid (HO2b.out w5 HU5.out)
          clear o5
          go_wp2_with fail
          refine (HN5.out).mono ?_
          rintro e w6 ⟨rfl, o6⟩
          have HU6 := Lib.hid (HU5.out.trans o6)
          have HA6 := Lib.hid (HAw.out w6)
          clear o6
          go_wp2_with fail
          refine (HA6.out).mono ?_
          rintro e w7 ⟨rfl, o7⟩
          have HU7 := Lib.hid (HU6.out.trans o7)
          clear o7
          go_wp2
          go_ret
          exact ⟨rfl, HOi.out.trans HU7.out⟩
    · have h2i : ((L : Nat) : Int) < 2 := by omega
      go_enter Tryd.func4, Tryd.ntmps4
      go_wp2_with fail
      refine (HFw.out).mono ?_
      rintro e w2 ⟨rfl, o2⟩
      have HO2 := Lib.hid o2
      have HA2 := Lib.hid (HAw.out w2)
      clear o2
      go_wp2_with fail
      refine (HA2.out).mono ?_
      rintro e w3 ⟨rfl, o3⟩
      have HO3 := Lib.hid (HO2.out.trans o3)
      clear o3
      go_wp2
      go_ret
      exact ⟨rfl, HO3.out⟩
  · rw [decide_eq_false hfw] at HFw
    go_enter Tryd.func4, Tryd.ntmps4
    go_wp2_with fail
    refine (HFw.out).mono ?_
    rintro e w2 ⟨rfl, o2⟩
    have HO2 := Lib.hid o2
    have HA2 := Lib.hid (HAw.out w2)
    clear o2
    go_wp2_with fail
    refine (HA2.out).mono ?_
    rintro e w3 ⟨rfl, o3⟩
    have HO3 := Lib.hid (HO2.out.trans o3)
    clear o3
    go_wp2
    go_ret
    exact ⟨rfl, HO3.out⟩
end Go.Proofs.YtighdjbeddcckaaDoor
