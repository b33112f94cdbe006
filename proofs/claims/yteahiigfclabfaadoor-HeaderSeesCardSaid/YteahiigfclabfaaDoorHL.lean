/-
  Read of Write is the header, and Write of Read the bytes: the walk.
-/
import Derived.Test.YteahiigfclabfaaDoorHK2
import Derived.Test.YteahiigfclabfaaDoorHL0
namespace Go.Proofs.YteahiigfclabfaaDoor.H
open Go.RowKit

theorem grown_nix {a w1 w2 : World} {base n : Nat} {v : Value} {xs : List Value} (h : Only Nix a w1) (hown : w1.ownsRow base 5 1 v n xs) (hb : a.heap.size ≤ base) (hg : w1.grownBy w2 v.ownBlock) : Only Nix a w2 :=
  h.grown hg (fun k hk => .inr (Nat.le_trans hb (hown.lt k hk).1))
theorem owns_form {w : World} {base n : Nat} {e : TypeId} {v : Value} {xs : List Value} (h : w.ownsRow base e 1 v n xs) : ∃ A c, v = .slice A n c ∧ n ≤ c ∧ (A = none → c = 0) := by
  rcases h.2 with ⟨rfl, h0⟩ | ⟨g, cap, cur, rfl, _, _, hle, _⟩
  · exact ⟨none, 0, by rw [h0], by omega, fun _ => rfl⟩
  · exact ⟨_, cap, rfl, hle, fun e => by cases e⟩
theorem src_some {w : World} {A : Option Addr} {n c : Nat} {bs : List Nat} (h : U.Src w (.slice A n c) bs) (hl : 0 < bs.length) : A ≠ none := by
  obtain ⟨ad, e, _⟩ := h.at_ hl
  rw [e]
  exact fun h => by cases h
def BkP (w : World) (m : Nat) (S : World → Prop) (s11 : Value) (wr : World) : Prop := ∃ j : Nat, j ≤ m ∧ s11 = iv j ∧ Only Nix w wr ∧ S wr
theorem src_just {u u' : World} {A : Option Addr} {n c : Nat} {bs : List Nat} (h : U.Src u (.slice A n c) bs) (o : Obj) (ho : Only (Just u.heap.size) (u.alloc o) u') : U.Src u' (.slice A n c) bs := by
  obtain ⟨A', c', hv, hc⟩ := h.form
  refine ⟨⟨A', c', hv, fun j hj => ?_⟩, h.small, h.lt⟩
  obtain ⟨ad, hA, hx⟩ := hc j hj
  refine ⟨ad, hA, U.cell_only ho (U.cell_keep ((Only.refl Nix u).alloc o) hx) (fun e => ?_)⟩
  have e2 : (ad.add j).block = u.heap.size := e
  have := World.block_lt_of_cell? _ _ hx
  omega
set_option maxRecDepth 100000 in
set_option maxHeartbeats 16000000 in
theorem back_walk {w : World} (hL : LaidH w) (h : Hd) (hi : HdI h) (A : Option Addr) (n c : Nat) (bs : List Nat) (hs : U.Src w (.slice A n c) bs) (hnc : n ≤ c) (hN : A = none → c = 0) :
    Calls Tryd.prog 4 #[hv h, .slice A n c] w fun x w' => x = .returned (.bool true) ∧ Only Nix w w' := by
  have HAw : Hid (∀ u, Only Nix w u → Calls Tryd.prog 12 #[] u fun e w' => e = .returned (.bool true) ∧ Only Nix u w') := Lib.hid (fun u hu => awake_any (hL.nix hu))
  have HWr : Hid (∀ u (x : Hd), Only Nix w u → HdI x → Calls Tryd.prog 10 #[.agg (hc x)] u fun y w' => ∃ A c, y = .returned (.tuple #[.slice A (wrB x).length c, iv (ckE x)]) ∧ (wrB x).length ≤ c ∧ U.Src w' (.slice A (wrB x).length c) (wrB x) ∧ Only Nix u w') := Lib.hid (fun u x hu hx => write_any (hL.nix hu) x hx)
  have HRd : Hid (∀ u A n c bs, Only Nix w u → U.Src u (.slice A n c) bs → n ≤ c → (A = none → c = 0) → Calls Tryd.prog 15 #[.slice A n c] u fun e w' => e = .returned (.tuple #[.agg (hc (rdX bs)), iv (rdN bs), iv (rdE bs)]) ∧ Only Nix u w') := Lib.hid (fun u A n c bs hu h1 h2 h3 => read_any (hL.nix hu) A n c bs h1 h2 h3)
  have HEq : Hid (∀ u (A B : Option Addr) (m k c d : Nat) (bs : List Nat), U.Src u (.slice A m c) bs → U.Src u (.slice B k d) bs → Calls Tryd.prog 13 #[.slice A m c, .slice B k d] u fun e w' => e = .returned (.bool true) ∧ Only Nix u w') := Lib.hid (fun u A B m k c d bs h1 h2 => equal_at A B m k c d bs h1 h2)
  have HI := Lib.hid hi
  have Hs := Lib.hid hs
  have HNn := Lib.hid hN
  have hlen := hs.len
  have hsm := hs.small
  have HLt := Lib.hid hs.lt
  have HL60 := Lib.hid hlen
  have HO1 := Lib.hid ((Only.refl Nix w).alloc (.cells (hc h) 23))
  have HB1 := Lib.hid (Box.new w 23 (hc h))
  have hx : hv h = .agg (hc h) := rfl
  generalize hW1 : w.alloc (.cells (hc h) 23) = W1 at *
  have hsz : w.heap.size < W1.heap.size := HB1.out.lt
  clear hL hi hs hN hlen
  go_enter Tryd.func4, Tryd.ntmps4
  rw [hx]
  obtain ⟨C, hC⟩ : ∃ C, hc h = C := ⟨_, rfl⟩
  have hC9 : C.size = 9 := by rw [← hC]; rfl
  rw [hC] at hW1 HB1 hx ⊢
  have HC := Lib.hid hC
  have HC9 := Lib.hid hC9
  clear hC hC9 hx
  by_cases h60 : n ≤ 60
  · have h60i : (n : Int) ≤ 60 := by omega
    have HW := Lib.hid (HWr.out W1 h HO1.out HI.out)
    rw [HC.out] at HW
    go_wp2_with (refine wpList_load_row rfl 23 (.tmp 2) rfl w.heap.size rfl 23 C (0, 0) _ HB1.out Tryd.underlying23 rfl (by rw [HC9.out]; exact Tryd.size_header) ?_)
    refine (HW.out).mono ?_
    rintro _ u2 ⟨A2, c2, rfl, hcap2, hsrc2, ho2⟩
    have HS2 := Lib.hid hsrc2
    have HO2 := Lib.hid (HO1.out.trans ho2)
    have HB2 := Lib.hid (HB1.out.only ho2 (fun e => e))
    have hl16 := wrB_len16 h
    have HWlt := Lib.hid (wrB_lt h)
    clear hsrc2 ho2 HW HB1 HO1
    by_cases hE : ckE h = 0
    · have k0 := (ck_ok h).1 hE
      have HF1 := Lib.hid (rd_forth k0 bs)
      have HF2 := Lib.hid (fun i hi => rd_cut k0 i hi)
      have hcd : HdOk (wrB h) := (hd_forth k0).1
      have hpos : 0 < (wrB h).length := by have := (hd_forth k0).2.2; omega
      have hA2 : A2 ≠ none := src_some HS2.out hpos
      obtain ⟨ad2, rfl⟩ : ∃ ad, A2 = some ad := by cases A2 with | none => exact absurd rfl hA2 | some ad => exact ⟨ad, rfl⟩
      clear hcd hA2 k0
      rw [hE]
      obtain ⟨L, hL'⟩ : ∃ L, (wrB h).length = L := ⟨_, rfl⟩
      have HL := Lib.hid hL'
      rw [hL'] at HS2 hcap2 hl16 hpos ⊢
      clear hL'
      go_wp2_with (at_builtin; refine U.wpList_append_bytes rfl (.tmp 31) (.tmp 32) rfl u2.heap.size (.slice none 0 0) 0 [] rfl (World.ownsRow_nil _ _ _ _) (some ad2) L c2 (wrB h) rfl HS2.out (by omega) (Nat.le_refl _) ?rest)
      case rest =>
        intro w2 u3 hown2 hgr2 _
        have o2 : Only Nix u2 u3 := grown_nix (Only.refl _ _) (World.ownsRow_nil _ _ _ _) (Nat.le_refl _) hgr2
        obtain ⟨A3, c3, hv3⟩ := owns_slice hown2
        subst hv3
        have HS3 := Lib.hid (HS2.out.nix o2)
        have HB3 := Lib.hid (HB2.out.only o2 (fun e => e))
        have HO3 := Lib.hid (HO2.out.trans o2)
        have Hb3 := Lib.hid (Hs.out.nix (HO2.out.trans o2))
        have O2 := Lib.hid hown2
        have hsize2 := o2.size
        have Hlt2 := Lib.hid HB2.out.lt
        clear hown2 hgr2 HB2
        go_wp2_with (at_builtin; refine U.wpList_append_bytes rfl (.tmp 34) (.tmp 35) rfl u2.heap.size (.slice A3 L c3) L ((wrB h).map byt) rfl O2.out A n c bs rfl Hb3.out (by omega) hsize2 ?rest2)
        case rest2 =>
          intro w3 u4 hown3 hgr3 _
          have o3 : Only Nix u2 u4 := grown_nix o2 O2.out (Nat.le_refl _) hgr3
          have o34 : Only Nix w u4 := HO2.out.trans o3
          rw [← List.map_append] at hown3
          have hsrc := U.owns_src hown3 (by rw [List.length_append, HL.out, ← HL60.out]; omega) (fun x hx => by
            rcases List.mem_append.1 hx with h3 | h3
            · exact HWlt.out x h3
            · exact HLt.out x h3)
          obtain ⟨A5, c5, hv5, hle5, hn5⟩ := owns_form hown3
          subst hv5
          have HRa := Lib.hid (HRd.out u4 A5 (L + n) c5 _ o34 hsrc hle5 hn5)
          rw [HF1.out.1, HF1.out.2.1, HF1.out.2.2, HL.out] at HRa
          have HS4 := Lib.hid (HS2.out.nix o3)
          have HO4 := Lib.hid o34
          have hlt2 := Hlt2.out
          have HB4 : Hid (Box u4 w.heap.size 23 C) := Lib.hid (HB3.out.grown hgr3 (fun e => by have := (O2.out.lt _ e).1; have := HO2.out.size; omega))
          clear hown3 hgr3 hsrc O2 Hb3 o3 o34 o2 HS3 hn5 HB3
          go_wp2_with fail
          refine (HRa.out).mono ?_
          rintro _ u5 ⟨rfl, ho5⟩
          have HS5 := Lib.hid (HS4.out.nix ho5)
          have HO5 := Lib.hid (HO4.out.trans ho5)
          have HB5 := Lib.hid (HB4.out.only ho5 (fun e => e))
          have HB8 := Lib.hid (Box.new u5 23 (hc hd0))
          have hlt5 : w.heap.size < u5.heap.size := HB5.out.lt
          clear ho5 HRa HB4 HS4
          go_wp2_with (refine wpList_store_row rfl 23 (.tmp 8) (.tmp 40) rfl rfl u5.heap.size 23 (hc hd0) (hc h) rfl rfl HB8.out Tryd.size_header rfl (hc_one _) ?st)
          case st =>
            intro u6 hbz hoz
            have BX6 := Lib.hid hbz
            have HO6 : Hid (Only Nix w u6) := Lib.hid ((HO5.out.alloc (.cells (hc hd0) 23)).then hoz (fun k e => .inr (by rw [show k = u5.heap.size from e]; exact HO5.out.size)))
            have hb6 := (HB5.out.alloc (.cells (hc hd0) 23)).only hoz (fun e => by have e2 : w.heap.size = u5.heap.size := e; omega)
            have HS6 := Lib.hid (src_just HS5.out _ hoz)
            rw [← HC.out] at hb6
            have HB6 := Lib.hid hb6
            have hq1 := run_neq_hd h
            have hq2 := guard_hd
            clear hbz hoz hb6 HB5 HB8 HS5
            go_wp2_with (first
              | refine wpList_load_row rfl 23 (.tmp 8) rfl u5.heap.size rfl 23 (hc h) (0, 0) _ BX6.out Tryd.underlying23 rfl Tryd.size_header ?_
              | refine wpList_load_row rfl 23 (.tmp 2) rfl w.heap.size rfl 23 (hc h) (0, 0) _ HB6.out Tryd.underlying23 rfl Tryd.size_header ?_)
            clear hq1 hq2
            go_loopw [11] (fun s11 wr => BkP w L (fun x => U.Src x (.slice (some ad2) L c2) (wrB h)) s11 wr) (fun s11 _ => L - (intOf s11).toNat)
            case atStart => exact ⟨0, Nat.zero_le _, rfl, HO6.out, HS6.out⟩
            case round =>
              obtain ⟨j, hj, rfl, hoj, hsj⟩ := hrel
              have HOj := Lib.hid hoj
              have HSj := Lib.hid hsj
              clear hoj hsj
              by_cases hlt : j < L
              · have hltI : (j : Int) < (L : Int) := by omega
                have hjc : (j : Int) ≤ (c2 : Int) := by omega
                have HRj := Lib.hid (HRd.out wr (some ad2) j c2 ((wrB h).take j) HOj.out (src_takeA HSj.out (by omega)) (by omega) (fun e => by cases e))
                rw [HF2.out j (by rw [HL.out]; exact hlt)] at HRj
                generalize rdX ((wrB h).take j) = Xj at *
                generalize rdN ((wrB h).take j) = Nj at *
                go_wp2_with fail
                refine (HRj.out).mono ?_
                rintro _ v1 ⟨rfl, hov⟩
                have HOv := Lib.hid (HOj.out.trans hov)
                have HSv := Lib.hid (HSj.out.nix hov)
                have HBv := Lib.hid (Box.new v1 23 (hc hd0))
                clear hov HRj
                go_wp2_with (refine wpList_store_row rfl 23 (.tmp 12) (.tmp 67) rfl rfl v1.heap.size 23 (hc hd0) (hc Xj) rfl rfl HBv.out Tryd.size_header rfl (hc_one _) ?stj)
                case stj =>
                  intro v2 hbz hoz
                  have HSw := Lib.hid (src_just HSv.out _ hoz)
                  have HOw : Hid (Only Nix w v2) := Lib.hid ((HOv.out.alloc (.cells (hc hd0) 23)).then hoz (fun k e => .inr (by rw [show k = v1.heap.size from e]; exact HOv.out.size)))
                  clear hbz hoz
                  go_wp2
                  go_roundw
                  case rel => exact ⟨j + 1, by omega, by go_num, HOw.out, HSw.out⟩
                  case measure => simp [intOf]; omega
              · have hlt2 : decide (j < L) = false := by simp; omega
                have HRb := Lib.hid (HRd.out wr A n c bs HOj.out (Hs.out.nix HOj.out) hnc HNn.out)
                go_wp2_with fail
                refine (HRb.out).mono ?_
                rintro _ v1 ⟨rfl, hov1⟩
                have HOv := Lib.hid (HOj.out.trans hov1)
                have HBv := Lib.hid (Box.new v1 23 (hc hd0))
                have HXc := Lib.hid (show hv (rdX bs) = .agg (hc (rdX bs)) from rfl)
                clear hov1 HRb
                by_cases hR : rdE bs = 0
                · obtain ⟨k, hk⟩ := rd_back HLt.out hR
                  have HK := Lib.hid hk
                  have hkn := hk.num
                  have k6 := hk.n6
                  have k16 := hk.n16
                  have kle := hk.le
                  have kn : k ≤ n := by rw [HL60.out]; exact kle
                  clear hk kle
                  rw [hR, hkn]
                  clear hkn
                  have hk6i : (6 : Int) ≤ (k : Int) := by omega
                  have hk16i : (k : Int) ≤ 16 := by omega
                  have hkni : (k : Int) ≤ (n : Int) := by omega
                  have hkci : (k : Int) ≤ (c : Int) := by omega
                  obtain ⟨X, hX⟩ : ∃ X, rdX bs = X := ⟨_, rfl⟩
                  rw [hX]
                  have HX0 := Lib.hid hX
                  go_wp2_with (refine wpList_store_row rfl 23 (.tmp 15) (.tmp 75) rfl rfl v1.heap.size 23 (hc hd0) (hc X) rfl rfl HBv.out Tryd.size_header rfl (hc_one _) ?stb)
                  case stb =>
                    intro v2 hbz hoz
                    have BX2 := Lib.hid hbz
                    have HOw : Hid (Only Nix w v2) := Lib.hid ((HOv.out.alloc (.cells (hc hd0) 23)).then hoz (fun k e => .inr (by rw [show k = v1.heap.size from e]; exact HOv.out.size)))
                    have HXok : Hid (HOk X) := Lib.hid (by rw [← HX0.out]; exact HK.out.ok)
                    have HW2 := Lib.hid (HWr.out v2 X HOw.out (by rw [← HX0.out]; exact HK.out.int))
                    have HWb : Hid (wrB X = bs.take k) := Lib.hid (by rw [← HX0.out]; exact HK.out.wr)
                    rw [(ck_ok X).2 HXok.out, HWb.out] at HW2
                    clear hbz hoz
                    go_wp2_with (refine wpList_load_row rfl 23 (.tmp 15) rfl v1.heap.size rfl 23 (hc X) (0, 0) _ BX2.out Tryd.underlying23 rfl Tryd.size_header ?_)
                    refine (HW2.out).mono ?_
                    rintro _ v3 ⟨A4, c4, rfl, hcap4, hsrc4, ho4⟩
                    have HO4 := Lib.hid (HOw.out.trans ho4)
                    have HE4 := Lib.hid (HEq.out v3 A4 A _ k c4 c (bs.take k) hsrc4 (src_takeA (Hs.out.nix HO4.out) kn))
                    have hlk : (bs.take k).length = k := by rw [List.length_take, Nat.min_eq_left (by rw [← HL60.out]; exact kn)]
                    rw [hlk] at HE4 hcap4 ⊢
                    clear hsrc4 ho4 HW2 hlk
                    go_wp2_with fail
                    refine (HE4.out).mono ?_
                    rintro _ v4 ⟨rfl, ho5⟩
                    have HO5 := Lib.hid (HO4.out.trans ho5)
                    have HA5 := Lib.hid (HAw.out v4 HO5.out)
                    clear ho5
                    go_wp2_with fail
                    refine (HA5.out).mono ?_
                    rintro _ v5 ⟨rfl, ho6⟩
                    have HO6 := Lib.hid (HO5.out.trans ho6)
                    clear ho6
                    go_wp2
                    go_ret
                    exact ⟨rfl, HO6.out⟩
                · obtain ⟨hX, hN0⟩ := rd_no hR
                  rw [hX, hN0]
                  clear hX hN0
                  generalize rdE bs = E5 at *
                  have hq1 : ∀ w, (binOp .eql 23 (.agg (hc hd0)) (.agg #[.bool false, .int .i64 0, .int .i64 0, .int .i64 0, .int .i64 0, .int .i64 0, .int .i64 0, .int .i64 0, .int .i64 0])).run Tryd.prog w = .ok (.bool true) w := run_eql_hd hd0
                  have hq2 := guard_hd
                  go_wp2_with (refine wpList_store_row rfl 23 (.tmp 15) (.tmp 75) rfl rfl v1.heap.size 23 (hc hd0) (hc hd0) rfl rfl HBv.out Tryd.size_header rfl (hc_one _) ?stb)
                  case stb =>
                    intro v2 hbz hoz
                    have BX2 := Lib.hid hbz
                    have HOw : Hid (Only Nix w v2) := Lib.hid ((HOv.out.alloc (.cells (hc hd0) 23)).then hoz (fun k e => .inr (by rw [show k = v1.heap.size from e]; exact HOv.out.size)))
                    have HA5 := Lib.hid (HAw.out v2 HOw.out)
                    clear hbz hoz
                    go_wp2_with (refine wpList_load_row rfl 23 (.tmp 15) rfl v1.heap.size rfl 23 (hc hd0) (0, 0) _ BX2.out Tryd.underlying23 rfl Tryd.size_header ?_)
                    refine (HA5.out).mono ?_
                    rintro _ v5 ⟨rfl, ho6⟩
                    have HO6 := Lib.hid (HOw.out.trans ho6)
                    clear ho6
                    go_wp2
                    go_ret
                    exact ⟨rfl, HO6.out⟩
    · skip
      generalize ckE h = E1 at *
      have HRb := Lib.hid (HRd.out u2 A n c bs HO2.out (Hs.out.nix HO2.out) hnc HNn.out)
      go_wp2_with fail
      refine (HRb.out).mono ?_
      rintro _ v1 ⟨rfl, hov1⟩
      have HOv := Lib.hid (HO2.out.trans hov1)
      have HBv := Lib.hid (Box.new v1 23 (hc hd0))
      have HXc := Lib.hid (show hv (rdX bs) = .agg (hc (rdX bs)) from rfl)
      clear hov1 HRb
      by_cases hR : rdE bs = 0
      · obtain ⟨k, hk⟩ := rd_back HLt.out hR
        have HK := Lib.hid hk
        have hkn := hk.num
        have k6 := hk.n6
        have k16 := hk.n16
        have kle := hk.le
        have kn : k ≤ n := by rw [HL60.out]; exact kle
        clear hk kle
        rw [hR, hkn]
        clear hkn
        have hk6i : (6 : Int) ≤ (k : Int) := by omega
        have hk16i : (k : Int) ≤ 16 := by omega
        have hkni : (k : Int) ≤ (n : Int) := by omega
        have hkci : (k : Int) ≤ (c : Int) := by omega
        obtain ⟨X, hX⟩ : ∃ X, rdX bs = X := ⟨_, rfl⟩
        rw [hX]
        have HX0 := Lib.hid hX
        go_wp2_with (refine wpList_store_row rfl 23 (.tmp 15) (.tmp 75) rfl rfl v1.heap.size 23 (hc hd0) (hc X) rfl rfl HBv.out Tryd.size_header rfl (hc_one _) ?stb)
        case stb =>
          intro v2 hbz hoz
          have BX2 := Lib.hid hbz
          have HOw : Hid (Only Nix w v2) := Lib.hid ((HOv.out.alloc (.cells (hc hd0) 23)).then hoz (fun k e => .inr (by rw [show k = v1.heap.size from e]; exact HOv.out.size)))
          have HXok : Hid (HOk X) := Lib.hid (by rw [← HX0.out]; exact HK.out.ok)
          have HW2 := Lib.hid (HWr.out v2 X HOw.out (by rw [← HX0.out]; exact HK.out.int))
          have HWb : Hid (wrB X = bs.take k) := Lib.hid (by rw [← HX0.out]; exact HK.out.wr)
          rw [(ck_ok X).2 HXok.out, HWb.out] at HW2
          clear hbz hoz
          go_wp2_with (refine wpList_load_row rfl 23 (.tmp 15) rfl v1.heap.size rfl 23 (hc X) (0, 0) _ BX2.out Tryd.underlying23 rfl Tryd.size_header ?_)
          refine (HW2.out).mono ?_
          rintro _ v3 ⟨A4, c4, rfl, hcap4, hsrc4, ho4⟩
          have HO4 := Lib.hid (HOw.out.trans ho4)
          have HE4 := Lib.hid (HEq.out v3 A4 A _ k c4 c (bs.take k) hsrc4 (src_takeA (Hs.out.nix HO4.out) kn))
          have hlk : (bs.take k).length = k := by rw [List.length_take, Nat.min_eq_left (by rw [← HL60.out]; exact kn)]
          rw [hlk] at HE4 hcap4 ⊢
          clear hsrc4 ho4 HW2 hlk
          go_wp2_with fail
          refine (HE4.out).mono ?_
          rintro _ v4 ⟨rfl, ho5⟩
          have HO5 := Lib.hid (HO4.out.trans ho5)
          have HA5 := Lib.hid (HAw.out v4 HO5.out)
          clear ho5
          go_wp2_with fail
          refine (HA5.out).mono ?_
          rintro _ v5 ⟨rfl, ho6⟩
          have HO6 := Lib.hid (HO5.out.trans ho6)
          clear ho6
          go_wp2
          go_ret
          exact ⟨rfl, HO6.out⟩
      · obtain ⟨hX, hN0⟩ := rd_no hR
        rw [hX, hN0]
        clear hX hN0
        generalize rdE bs = E5 at *
        have hq1 : ∀ w, (binOp .eql 23 (.agg (hc hd0)) (.agg #[.bool false, .int .i64 0, .int .i64 0, .int .i64 0, .int .i64 0, .int .i64 0, .int .i64 0, .int .i64 0, .int .i64 0])).run Tryd.prog w = .ok (.bool true) w := run_eql_hd hd0
        have hq2 := guard_hd
        go_wp2_with (refine wpList_store_row rfl 23 (.tmp 15) (.tmp 75) rfl rfl v1.heap.size 23 (hc hd0) (hc hd0) rfl rfl HBv.out Tryd.size_header rfl (hc_one _) ?stb)
        case stb =>
          intro v2 hbz hoz
          have BX2 := Lib.hid hbz
          have HOw : Hid (Only Nix w v2) := Lib.hid ((HOv.out.alloc (.cells (hc hd0) 23)).then hoz (fun k e => .inr (by rw [show k = v1.heap.size from e]; exact HOv.out.size)))
          have HA5 := Lib.hid (HAw.out v2 HOw.out)
          clear hbz hoz
          go_wp2_with (refine wpList_load_row rfl 23 (.tmp 15) rfl v1.heap.size rfl 23 (hc hd0) (0, 0) _ BX2.out Tryd.underlying23 rfl Tryd.size_header ?_)
          refine (HA5.out).mono ?_
          rintro _ v5 ⟨rfl, ho6⟩
          have HO6 := Lib.hid (HOw.out.trans ho6)
          clear ho6
          go_wp2
          go_ret
          exact ⟨rfl, HO6.out⟩
  · have h60i : (60 : Int) < (n : Int) := by omega
    have HA := Lib.hid (HAw.out W1 HO1.out)
    go_wp2_with fail
    refine (HA.out).mono ?_
    rintro _ u2 ⟨rfl, ho2⟩
    have HO2 := Lib.hid (HO1.out.trans ho2)
    clear ho2
    go_wp2
    go_ret
    exact ⟨rfl, HO2.out⟩
end Go.Proofs.YteahiigfclabfaaDoor.H
