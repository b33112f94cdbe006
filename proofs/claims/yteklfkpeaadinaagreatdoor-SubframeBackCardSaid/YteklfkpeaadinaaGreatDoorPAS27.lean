/-
  SubframeBack: its walk.
-/
import Derived.Test.YteklfkpeaadinaaGreatDoorPAS18
import Derived.Test.YteklfkpeaadinaaGreatDoorPAS21
import Derived.Test.YteklfkpeaadinaaGreatDoorPAS22
import Derived.Test.YteklfkpeaadinaaGreatDoorPAS25
import Derived.Test.YteklfkpeaadinaaGreatDoorPAS26
namespace Go.Proofs.YteklfkpeaadinaaGreatDoor.S
open Go.RowKit Go.Shelf
open K (linV fx)

set_option maxRecDepth 100000 in
set_option maxHeartbeats 8000000 in
theorem subframeBack_walk {w : World} (hLd : Laid w) (hT : Tab w) (k o wd lp ls : Int) (Ac : Option Addr) (nc cc : Nat) (m ro : Int) (Ap Ab : Option Addr) (np cp nb cb : Nat) (d : Int) (A : Option Addr) (n c : Nat) (Az : Option Addr) (nz cz : Nat) (cs ps bs xs zs : List Int)
    (hcs : ISrc w (.slice Ac nc cc) cs) (hps : ISrc w (.slice Ap np cp) ps) (hbs : ISrc w (.slice Ab nb cb) bs) (hxs : ISrc w (.slice A n c) xs) (hzs : ISrc w (.slice Az nz cz) zs) :
    Calls Tryz.prog 3 #[spV k o wd lp ls (.slice Ac nc cc) m ro (.slice Ap np cp) (.slice Ab nb cb), iv d, .agg #[.slice A n c, .slice Az nz cz]] w fun e w' => e = .returned (.bool true) ∧ Only Nix w w' := by
  have hn := hxs.len
  have hnz := hzs.len
  have sz1 := hxs.small
  have sz2 := hzs.small
  rw [← hn] at sz1
  rw [← hnz] at sz2
  obtain ⟨Wa, hWa⟩ : ∃ Wa, (w.alloc (.cells (spC k o wd lp ls (.slice Ac nc cc) m ro (.slice Ap np cp) (.slice Ab nb cb)) 28)).alloc (.cells #[.slice A n c, .slice Az nz cz] 29) = Wa := ⟨_, rfl⟩
  have a0 := ((Only.refl Nix w).alloc (.cells (spC k o wd lp ls (.slice Ac nc cc) m ro (.slice Ap np cp) (.slice Ab nb cb)) 28)).alloc (.cells #[.slice A n c, .slice Az nz cz] 29)
  have B0 := (Box.new w 28 (spC k o wd lp ls (.slice Ac nc cc) m ro (.slice Ap np cp) (.slice Ab nb cb))).alloc (.cells #[.slice A n c, .slice Az nz cz] 29)
  have B1 := Box.new (w.alloc (.cells (spC k o wd lp ls (.slice Ac nc cc) m ro (.slice Ap np cp) (.slice Ab nb cb)) 28)) 29 #[.slice A n c, .slice Az nz cz]
  rw [World.size_alloc] at B1
  have hszA : Wa.heap.size = w.heap.size + 2 := by rw [← hWa]; simp
  rw [hWa] at a0 B0 B1
  have HCS := Lib.hid (hcs.nix a0)
  have HPS := Lib.hid (hps.nix a0)
  have HBS := Lib.hid (hbs.nix a0)
  have HXS := Lib.hid (hxs.nix a0)
  have HZ := Lib.hid (hzs.nix a0)
  have HLd := Lib.hid (hLd.nix a0)
  have HA := Lib.hid a0
  have HB0 := Lib.hid B0
  have HB1 := Lib.hid B1
  have d0 := B0.cell 0
  have d1 := B0.cell 1
  have d2 := B0.cell 2
  have d3 := B0.cell 3
  have d4 := B0.cell 4
  have d5 := B0.cell 5
  have d6 := B0.cell 6
  have d7 := B0.cell 7
  have d8 := B0.cell 8
  have d9 := B0.cell 9
  simp only [List.getElem?_toArray, List.getElem?_cons_zero, List.getElem?_cons_succ] at d0 d1 d2 d3 d4 d5 d6 d7 d8 d9
  have e0 := B1.cell 0
  have e1 := B1.cell 1
  simp only [List.getElem?_toArray, List.getElem?_cons_zero, List.getElem?_cons_succ] at e0 e1
  have HAw : Hid (∀ u, Only Nix Wa u → Calls Tryz.prog 8 #[] u fun e w' => e = .returned (.bool true) ∧ Only Nix u w') := Lib.hid (fun u hu => awake7 ((hLd.nix a0).nix hu) ((hT.nix a0).nix hu))
  have HFew := Lib.hid (few_any (w := Wa) k o wd lp ls Ac nc cc m ro Ap Ab np cp nb cb A n c xs HXS.out)
  have Hn := Lib.hid hn
  have Hnz := Lib.hid hnz
  clear hcs hps hbs hxs hzs a0 B0 B1 hn hnz hLd hT
  go_enter Tryz.func3, Tryz.ntmps3
  go_wp2_with fail
  refine (HFew.out).mono ?_
  rintro e w1 ⟨rr, rfl, o1, hfew⟩
  have HO1 := Lib.hid o1
  have C0 := HB0.out.only o1 (fun e => e)
  have C1 := HB1.out.only o1 (fun e => e)
  have c0 := C0.cell 0
  have c1 := C0.cell 1
  have c2 := C0.cell 2
  have c3 := C0.cell 3
  have c4 := C0.cell 4
  have c5 := C0.cell 5
  have c6 := C0.cell 6
  have c7 := C0.cell 7
  have c8 := C0.cell 8
  have c9 := C0.cell 9
  simp only [List.getElem?_toArray, List.getElem?_cons_zero, List.getElem?_cons_succ] at c0 c1 c2 c3 c4 c5 c6 c7 c8 c9
  have g0 := C1.cell 0
  have g1 := C1.cell 1
  simp only [List.getElem?_toArray, List.getElem?_cons_zero, List.getElem?_cons_succ] at g0 g1
  clear o1 C0 C1
  cases rr with
  | false =>
    clear hfew
    go_wp2_with fail
    refine (HAw.out _ HO1.out).mono ?_
    rintro e wz ⟨rfl, oz⟩
    have HFin := Lib.hid ((HA.out.trans HO1.out).trans oz)
    go_wp2
    go_ret
    exact ⟨rfl, HFin.out⟩
  | true =>
    obtain ⟨h40, h100, hb100, hn100⟩ := hfew rfl
    clear hfew
    by_cases hz20 : 20 < nz
    · have hz20i : (20 : Int) < (nz : Int) := by omega
      go_wp2_with fail
      refine (HAw.out _ HO1.out).mono ?_
      rintro e wz ⟨rfl, oz⟩
      have HFin := Lib.hid ((HA.out.trans HO1.out).trans oz)
      go_wp2
      go_ret
      exact ⟨rfl, HFin.out⟩
    · have hz20i : ¬ ((20 : Int) < (nz : Int)) := by omega
      have HLg := Lib.hid (long_any (w := w1) k o wd lp ls Ac nc cc m ro Ap Ab np cp nb cb d A n c cs xs (HCS.out.nix HO1.out) (HXS.out.nix HO1.out) (by omega))
      go_wp2_with fail
      refine (HLg.out).mono ?_
      rintro e w2 ⟨lg, rfl, o2⟩
      have HO2 := Lib.hid (HO1.out.trans o2)
      have D0 := Lib.hid (HB0.out.only HO2.out (fun e => e))
      have D1 := Lib.hid (HB1.out.only HO2.out (fun e => e))
      clear o2 c0 c1 c2 c3 c4 c5 c6 c7 c8 c9 g0 g1 HLg
      cases lg with
      | true =>
        go_wp2_with fail
        refine (HAw.out _ HO2.out).mono ?_
        rintro e wz ⟨rfl, oz⟩
        have HFin := Lib.hid ((HA.out.trans HO2.out).trans oz)
        go_wp2
        go_ret
        exact ⟨rfl, HFin.out⟩
      | false =>
        have HNW := Lib.hid (newWriter_any w2)
        go_wp2_with fail
        refine (HNW.out).mono ?_
        rintro e w3 ⟨rfl, hW3, o3⟩
        obtain ⟨b, hb⟩ : ∃ b, w2.heap.size = b := ⟨_, rfl⟩
        have hbw : w.heap.size + 2 ≤ b := by have := HO2.out.size; omega
        rw [hb] at hW3 ⊢
        have HO3 := Lib.hid (HO2.out.trans o3)
        have E0 := Lib.hid (HB0.out.only HO3.out (fun e => e))
        have E1 := Lib.hid (HB1.out.only HO3.out (fun e => e))
        have c0 := E0.out.cell 0
        have c1 := E0.out.cell 1
        have c2 := E0.out.cell 2
        have c3 := E0.out.cell 3
        have c4 := E0.out.cell 4
        have c5 := E0.out.cell 5
        have c6 := E0.out.cell 6
        have c7 := E0.out.cell 7
        have c8 := E0.out.cell 8
        have c9 := E0.out.cell 9
        simp only [List.getElem?_toArray, List.getElem?_cons_zero, List.getElem?_cons_succ] at c0 c1 c2 c3 c4 c5 c6 c7 c8 c9
        have HW3 := Lib.hid hW3
        have hLw : ∀ u, Only (WF b (.slice none 0 0)) w3 u → Laid u := fun u hu => (HLd.out.nix HO3.out).only hu (fun e => by
          have := HLd.out.lt
          rcases e with e | e
          · omega
          · simp [Value.ownBlock] at e)
        have aC := apart_new (b := b) HCS.out (by omega)
        have aP := apart_new (b := b) HPS.out (by omega)
        have aB := apart_new (b := b) HBS.out (by omega)
        have HWr := Lib.hid (write_any hW3 hLw k o wd lp ls Ac nc cc m ro Ap Ab np cp nb cb cs ps bs d A n c xs (HCS.out.nix HO3.out) (HPS.out.nix HO3.out) (HBS.out.nix HO3.out) (HXS.out.nix HO3.out) (by omega) aC aP aB (by simp))
        clear hW3 o3 hb HNW hLw aC aP aB
        go_wp2_with fail
        refine (HWr.out).mono ?_
        intro e w4 hwr
        obtain ⟨E, hE⟩ : ∃ E, splE k o wd lp ls m ro cs ps bs d xs = E := ⟨_, rfl⟩
        rw [hE] at hwr
        have he := hwr.ans
        subst he
        by_cases h0 : E = 0
        · subst h0
          obtain ⟨v4, bs4, hW4, ho4, hm4⟩ := hwr.good rfl
          have hbk := (splE_zero hE).1
          have hD : 4 ≤ d ∧ d ≤ 33 ∧ 1 ≤ n := by
            unfold ckBlk at hbk
            split at hbk
            · cases hbk
            · rw [Hn.out]; omega
          obtain ⟨D, hDd⟩ := Int.eq_ofNat_of_zero_le (show 0 ≤ d by omega)
          have hDd : d = (D : Int) := hDd
          subst hDd
          have hback : ∀ by_ X, bitsOf by_ = chB k o wd lp ls m ro cs ps bs D xs ++ X → ∃ kn on wn : Nat, k = kn ∧ o = on ∧ wd = wn ∧ ChOk by_ 0 n D kn on wn lp ls cs m ro ps bs xs (chB k o wd lp ls m ro cs ps bs D xs).length := fun by_ X h => by
            obtain ⟨kn, on, wn, e1, e2, e3, hc⟩ := ch_back (by_ := by_) (L := []) (X := X) hE (by rw [h]; rfl)
            refine ⟨kn, on, wn, e1, e2, e3, ?_⟩
            rw [Hn.out]
            simpa only [List.length_nil, Nat.zero_add, Int.toNat_natCast] using hc
          have hcl := chB_len hE (by rw [← Hn.out]; omega)
          obtain ⟨BB, hBB⟩ : ∃ BB, chB k o wd lp ls m ro cs ps bs D xs = BB := ⟨_, rfl⟩
          rw [hBB] at hback hcl hW4
          rw [List.nil_append] at hW4
          have HLn := Lib.hid (len_any hW4)
          have oA4 : Only Nix Wa w4 := HO3.out.then ho4 (fun i e => by
            rcases e with e | e
            · exact .inr (by omega)
            · simp [Value.ownBlock] at e)
          have hv4 : ∀ g, v4.ownBlock = some g → Wa.heap.size ≤ g := fun g hg => by
            rcases hm4 g hg with e | e
            · simp [Value.ownBlock] at e
            · have := HO3.out.size; omega
          have HW4 := Lib.hid hW4
          have HA4 := Lib.hid oA4
          have HV4 := Lib.hid hv4
          have HBk := Lib.hid hback
          have HD := Lib.hid hD
          clear hW4 ho4 hm4 oA4 hv4 hback hE hbk hBB hwr HWr HW3 c0 c1 c2 c3 c4 c5 c6 c7 c8 c9
          go_wp2_with fail
          refine (HLn.out).mono ?_
          rintro e w5 ⟨rfl, rfl⟩
          clear HLn
          go_wp2
          go_loopw [11] (fun s11 wr => AppP Wa b BB nz s11 wr) (fun s11 _ => nz - (intOf s11).toNat)
          case atStart => exact ⟨0, [], v4, bs4, Nat.zero_le _, rfl, rfl, by rw [List.append_nil]; exact HW4.out, HV4.out, HA4.out⟩
          case round =>
            obtain ⟨i, X, v5, bs5, hi, rfl, hX, hW5, hv5, hA5⟩ := hrel
            have E1 := HB1.out.only hA5 (fun e => e)
            have k0 := E1.cell 0
            have k1 := E1.cell 1
            simp only [List.getElem?_toArray, List.getElem?_cons_zero, List.getElem?_cons_succ] at k0 k1
            by_cases hlt : i < nz
            · have hltx : i < zs.length := by rw [← Hnz.out]; exact hlt
              obtain ⟨adz, rfl, hxj⟩ := (HZ.out.nix hA5).at_ hltx
              have hft := (HZ.out).fits _ (List.getElem_mem hltx)
              have hlt2 : (i : Int) < (nz : Int) := by omega
              generalize zs[i] = x at *
              clear hltx
              obtain ⟨y, hy⟩ : ∃ y : Nat, x % 256 = (y : Int) := ⟨(x % 256).toNat, by omega⟩
              have hy2 : y < 256 := by omega
              have hwy : IntKind.u8.wrap x = (y : Int) := by rw [IntKind.wrap_u8]; exact hy
              have hbl2 := hW5.box.lt
              have hvl : ∀ g, v5.ownBlock = some g → g < wr.heap.size := fun g hg => owns_lt hW5.own hg
              have hLt := lists_lit wr b v5 y hy2 hbl2 hvl
              have hW5b := (hW5.alloc (.cells #[.int .u8 (y : Int)] 5)).alloc (.cells #[.slice (some ⟨wr.heap.size, 0, none⟩) 1 1] 39)
              have HAp := Lib.hid (append_any hW5b hLt (by simp) (fun q hq => by
                have : (bitsOf ([[y]].take q).flatten).length ≤ 8 := by
                  rw [bitsOf_len]
                  have : ([[y]].take q).flatten.length ≤ 1 := by
                    cases q with
                    | zero => simp
                    | succ q => simp
                  omega
                rw [List.length_append, List.length_append, hX]
                omega))
              have hO6 := (hA5.alloc (.cells #[.int .u8 (y : Int)] 5)).alloc (.cells #[.slice (some ⟨wr.heap.size, 0, none⟩) 1 1] 39)
              have HO6 := Lib.hid hO6
              have HV5 := Lib.hid hv5
              have HX := Lib.hid hX
              have hws := hA5.size
              clear hO6 hW5b hLt hvl hv5 hW5 E1 hX hy hA5
              go_wp2_with fail
              refine (HAp.out).mono ?_
              rintro e w6 ⟨rfl, v6, bs6, hW6, ho6, hm6⟩
              go_wp2
              go_roundw
              case rel =>
                refine ⟨i + 1, X ++ bitsOf [y], v6, bs6, by omega, by go_num, by rw [List.length_append, HX.out, bitsOf_len]; simp; omega, ?_, fun g hg => ?_, HO6.out.then ho6 (fun q e => ?_)⟩
                · rw [← List.append_assoc]
                  have : (List.flatten [[y]]) = [y] := rfl
                  rw [this] at hW6
                  exact hW6
                · rcases hm6 g hg with e | e
                  · exact HV5.out g e
                  · simp at e; omega
                · rcases e with e | e
                  · exact .inr (by omega)
                  · exact .inr (HV5.out q e)
              case measure => simp [intOf]; omega
            · obtain rfl : i = nz := by omega
              have hlt2 : decide (i < i) = false := by simp
              have hpk := hW5.packs
              have hbits := hpk.bits
              have HBy := Lib.hid (bytes_any hW5)
              obtain ⟨kn, on, wn, hkn, hon, hwn, hparse⟩ := HBk.out bs5 (X ++ List.replicate (8 * bs5.length - (BB ++ X).length) 0) (by rw [hbits, List.append_assoc])
              subst hkn
              subst hon
              subst hwn
              have hb256 := hpk.lt
              have hbl5 := hW5.len
              have HPr := Lib.hid hparse
              have H256 := Lib.hid hb256
              have HA5 := Lib.hid hA5
              clear hparse hb256 hpk hbits hW5 hv5 hA5 E1
              go_wp2_with fail
              refine (HBy.out).mono ?_
              rintro e w6 ⟨v6, rfl, hown, ho6⟩
              have S6 := Src.of_owns hown (by omega)
              obtain ⟨A6, c6, hv6⟩ := S6.slice
              subst hv6
              have HNR := Lib.hid (newReader_any S6 H256.out)
              have HA6 := Lib.hid (HA5.out.trans ho6)
              clear S6 hown ho6 HBy
              go_wp2_with fail
              refine (HNR.out).mono ?_
              rintro e w7 ⟨r, rv, rfl, hR7, hN7, ho7⟩
              have HA7 := Lib.hid (HA6.out.trans ho7)
              have hr7 : Wa.heap.size ≤ r := by have := HA6.out.size; have := hN7.1; omega
              have HRd := Lib.hid (sread_any hR7 (fun u hu => (HLd.out.nix HA7.out).only hu (fun e => by
                have := HLd.out.lt
                have : 0 = r := e
                omega)) n D HD.out.2.2 (by omega) (by have := HD.out; omega) (by have := HD.out; omega))
              clear hR7 hN7 ho7 HNR
              go_wp2_with fail
              refine (HRd.out).mono ?_
              rintro e w9 (⟨E, rfl, hE9, hR9, o9, hno⟩ | ⟨k', o', wd', lp', ls', cs', m', ro', ps', ws', xs', a', A', Ac', Ap', Ab', n', c', nc', cc', np', cp', nb', cb', rfl, hok, s1, s2, s3, s4, hR9, o9⟩)
              · exact absurd HPr.out (hno _ _ _ _ _ _ _ _ _ _ _ _)
              · obtain ⟨rfl, rfl, rfl, rfl, rfl, rfl, rfl, rfl, rfl, rfl, rfl, rfl⟩ := HPr.out.det hok
                have oA9 : Only Nix Wa w9 := HA7.out.then o9 (fun q e => .inr (by have : q = r := e; omega))
                have HR9 := Lib.hid hR9
                have HA9 := Lib.hid oA9
                have Hs1 := Lib.hid s1.src
                have Hs2 := Lib.hid s2.src
                have Hs3 := Lib.hid s3.src
                have Hs4 := Lib.hid s4.src
                clear hR9 oA9 s1 s2 s3 s4 o9 hok HRd
                go_wp2_with (refine wpList_store_row rfl 28 (.tmp 14) (.tmp 82) rfl rfl w9.heap.size 28 zC (spC kn on wn lp ls (.slice Ac' nc' cc') m ro (.slice Ap' np' cp') (.slice Ab' nb' cb')) rfl rfl (Box.new w9 _ _) Tryz.size_plan rfl (spC_one _ _ _ _ _ _ _ _ _ _ _ _ _ _ _ _) ?st)
                case st =>
                  intro w10 hb10 ho10
                  have o910 : Only Nix w9 w10 := ((Only.refl Nix w9).alloc _).then ho10 (fun i e => .inr (by cases e; exact Nat.le_refl _))
                  have HA10 := Lib.hid (HA9.out.trans o910)
                  have HI := Lib.hid (ints_yes (Hs1.out.nix o910) (HXS.out.nix HA10.out))
                  have HSm : Hid (∀ q, Calls Tryz.prog 17 #[spV kn on wn lp ls (.slice Ac nc cc) m ro (.slice Ap np cp) (.slice Ab nb cb), spV kn on wn lp ls (.slice Ac' nc' cc') m ro (.slice Ap' np' cp') (.slice Ab' nb' cb')] (w10.drewN q) fun e w' => e = .returned (.bool true) ∧ Only Nix (w10.drewN q) w') := Lib.hid (fun q => by
                    have oq : Only Nix Wa (w10.drewN q) := HA10.out.drewN q
                    have pq : Only Nix w9 (w10.drewN q) := o910.drewN q
                    exact same7 kn on wn lp ls m ro Ac Ap Ab Ac' Ap' Ab' nc cc np cp nb cb nc' cc' np' cp' nb' cb' cs ps bs (HCS.out.nix oq) (HPS.out.nix oq) (HBS.out.nix oq) (Hs2.out.nix pq) (Hs3.out.nix pq) (Hs4.out.nix pq))
                  have F0 := HB0.out.only HA10.out (fun e => e)
                  have q0 := F0.cell 0
                  have q1 := F0.cell 1
                  have q2 := F0.cell 2
                  have q3 := F0.cell 3
                  have q4 := F0.cell 4
                  have q5 := F0.cell 5
                  have q6 := F0.cell 6
                  have q7 := F0.cell 7
                  have q8 := F0.cell 8
                  have q9 := F0.cell 9
                  simp only [List.getElem?_toArray, List.getElem?_cons_zero, List.getElem?_cons_succ] at q0 q1 q2 q3 q4 q5 q6 q7 q8 q9
                  have z0 := hb10.cell 0
                  have z1 := hb10.cell 1
                  have z2 := hb10.cell 2
                  have z3 := hb10.cell 3
                  have z4 := hb10.cell 4
                  have z5 := hb10.cell 5
                  have z6 := hb10.cell 6
                  have z7 := hb10.cell 7
                  have z8 := hb10.cell 8
                  have z9 := hb10.cell 9
                  simp only [List.getElem?_toArray, List.getElem?_cons_zero, List.getElem?_cons_succ] at z0 z1 z2 z3 z4 z5 z6 z7 z8 z9
                  have hat := (HR9.out.nix o910).cell0
                  have Hat := Lib.hid hat
                  clear hb10 ho10 o910 F0 hat
                  go_wp2_with fail
                  refine (HI.out).mono ?_
                  rintro e w11 ⟨rfl, q, rfl⟩
                  go_wp2_with fail
                  refine (HSm.out q).mono ?_
                  rintro e w12 ⟨rfl, o12⟩
                  have HA12 := Lib.hid ((HA10.out.drewN q).trans o12)
                  have HAt := Lib.hid (at_any r BB.length w12 (cell_keep (((Only.refl Nix w10).drewN q).trans o12) Hat.out))
                  clear o12
                  go_wp2_with fail
                  refine (HAt.out).mono ?_
                  rintro e w13 ⟨rfl, rfl⟩
                  go_wp2_with fail
                  refine (HAw.out _ HA12.out).mono ?_
                  rintro e w14 ⟨rfl, o14⟩
                  have HFin := Lib.hid ((HA.out.trans HA12.out).trans o14)
                  go_wp2
                  go_ret
                  exact ⟨rfl, HFin.out⟩
        · have hEb : (E != 0) = true := by simpa using h0
          have o4 := hwr.bad h0
          have HLn := Lib.hid (len_any (HW3.out.nix o4))
          have HO4 := Lib.hid (HO3.out.trans o4)
          clear hwr o4 c0 c1 c2 c3 c4 c5 c6 c7 c8 c9 HWr
          go_wp2_with fail
          refine (HLn.out).mono ?_
          rintro e w5 ⟨rfl, rfl⟩
          go_wp2_with fail
          refine (HAw.out _ HO4.out).mono ?_
          rintro e wz ⟨rfl, oz⟩
          have HFin := Lib.hid ((HA.out.trans HO4.out).trans oz)
          go_wp2
          go_ret
          exact ⟨rfl, HFin.out⟩
end Go.Proofs.YteklfkpeaadinaaGreatDoor.S
