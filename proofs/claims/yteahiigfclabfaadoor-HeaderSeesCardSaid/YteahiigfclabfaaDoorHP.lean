/-
  Damage of no more than 8 bits is seen: the walk.
-/
import Derived.Test.YteahiigfclabfaaDoorHL
import Derived.Test.YteahiigfclabfaaDoorHP0
import Derived.RegionTactic
import Derived.Laws.BitsAllLaws
namespace Go.Proofs.YteahiigfclabfaaDoor.H
open Go.RowKit

/-- at block g lie these bytes, and more behind -/
def ByB (w : World) (g : Nat) (cs : List Nat) (tl : List Value) : Prop := Box w g 5 ((cs.map byt) ++ tl).toArray
theorem ByB.src {w : World} {g n c : Nat} {cs : List Nat} {tl : List Value} (h : ByB w g cs tl) (hn : cs.length = n) (hs : cs.length ≤ 1000) (hl : ∀ x ∈ cs, x < 256) : U.Src w (.slice (some ⟨g, 0, none⟩) n c) cs := by
  refine U.Src.of_cells hn (fun j hj => ?_) (by omega) hl
  rw [h.cell]
  simp [hj, List.getElem?_append_left]
theorem see_put {wr : World} {g k x : Nat} {cs : List Nat} {tl : List Value} (hB : ByB wr g cs tl) (hk : k / 8 < cs.length) (hg : cs.getD (k / 8) 0 = x) (hx : x < 256) :
    ByB (wr.setCell ⟨g, k / 8, none⟩ (.int .u8 (bits .xor .u8 (x : Int) (128 / 2 ^ (k % 8))))).drew g (U.tog cs k) tl := by
  have e1 : (128 : Int) / 2 ^ (k % 8) = ((128 / 2 ^ (k % 8) : Nat) : Int) := by rw [pow_cast, Int.natCast_ediv]; rfl
  have hl : 128 / 2 ^ (k % 8) ≤ 128 := Nat.div_le_self _ _
  rw [e1, u8_xor_nat _ _ hx (by omega)]
  have := (Box.put hB (k / 8) (byt (x ^^^ 128 / 2 ^ (k % 8)))).drew
  have e2 : (((cs.map byt) ++ tl).toArray).setIfInBounds (k / 8) (byt (x ^^^ 128 / 2 ^ (k % 8))) = (((U.tog cs k).map byt) ++ tl).toArray := by
    unfold U.tog
    rw [List.setIfInBounds_toArray, List.map_set, hg, List.set_append_left _ _ (by simpa using hk)]
  rw [e2] at this
  exact this
/-- a row loaded behind a guard that says yes -/
theorem wpList_load_row_g {P : Program} {ops : Array Oper} {rest : List Oper} {op : Oper} {a : Act} {w : World} {Q : Exit → Act → World → Prop} (j s : Nat) (b : Bool) (hg : op.guard = some (j, b)) (hd : (ops[j]?.bind fun x => x.dst) = some s) (ht : a.tmps[s]? = some (.bool b)) (ty : TypeId) (x : Operand) (ho : op.op = .load ty x)
    (g : Nat) (hx : a.eval x = .pointer (some ⟨g, 0, none⟩)) (t : TypeId) (cs : Array Value) (fr : Nat × Nat) (d : TypeDesc) (hc : w.heap[g]? = some (.cells cs t fr))
    (hu : P.underlying ty = some d) (hr : (match d with | .struct _ | .array _ _ => true | _ => false) = true) (hi : (P.info? ty).map (·.size) = some cs.size)
    (h : wpList P ops Q rest (a.put op.dst (.agg cs)) w) : wpList P ops Q (op :: rest) a w :=
  BigFrame.wpList_want (wanted_yes hg hd ht) fun _ hK => wp_load_row ty x ho g hx t cs fr d hc hu hr hi (hK _ _ h)
def SeeRel (w : World) (g hb : Nat) (C : Array Value) (bs : List Nat) (tl : List Value) (k0 : Nat) (s10 s11 : Value) (wr : World) : Prop :=
  ∃ (i : Nat) (cs : List Nat) (turned : Bool), i ≤ 8 ∧ s11 = iv i ∧ s10 = .bool turned ∧ cs.length = bs.length ∧ (∀ x ∈ cs, x < 256) ∧ ByB wr g cs tl ∧ U.Seen 8 7 bs cs k0 i turned ∧ (turned = false → cs = bs) ∧ Only Nix w wr ∧ Box wr hb 23 C
set_option maxRecDepth 100000 in
set_option maxHeartbeats 16000000 in
theorem sees_walk {w : World} (hL : LaidH w) (h : Hd) (hi : HdI h) (x y : Int) :
    Calls Tryd.prog 5 #[hv h, iv x, iv y] w fun x w' => x = .returned (.bool true) ∧ Only Nix w w' := by
  have HAw : Hid (∀ u, Only Nix w u → Calls Tryd.prog 12 #[] u fun e w' => e = .returned (.bool true) ∧ Only Nix u w') := Lib.hid (fun u hu => awake_any (hL.nix hu))
  have HW := Lib.hid (write_any (hL.nix ((Only.refl Nix w).alloc (.cells (hc h) 23))) h hi)
  have HRd : Hid (∀ u A n c bs, Only Nix w u → U.Src u (.slice A n c) bs → n ≤ c → (A = none → c = 0) → Calls Tryd.prog 15 #[.slice A n c] u fun e w' => e = .returned (.tuple #[.agg (hc (rdX bs)), iv (rdN bs), iv (rdE bs)]) ∧ Only Nix u w') := Lib.hid (fun u A n c bs hu h1 h2 h3 => read_any (hL.nix hu) A n c bs h1 h2 h3)
  have HO1 := Lib.hid ((Only.refl Nix w).alloc (.cells (hc h) 23))
  have HB1 := Lib.hid (Box.new w 23 (hc h))
  have hx : hv h = .agg (hc h) := rfl
  generalize hW1 : w.alloc (.cells (hc h) 23) = W1 at *
  have hsz : w.heap.size < W1.heap.size := HB1.out.lt
  clear hL hi
  go_enter Tryd.func5, Tryd.ntmps5
  rw [hx]
  rw [hx] at HW
  obtain ⟨C, hC⟩ : ∃ C, hc h = C := ⟨_, rfl⟩
  have hC9 : C.size = 9 := by rw [← hC]; rfl
  rw [hC] at hW1 HB1 hx HW ⊢
  have HC := Lib.hid hC
  have HC9 := Lib.hid hC9
  clear hC hC9 hx
  go_wp2_with (refine wpList_load_row rfl 23 (.tmp 3) rfl w.heap.size rfl 23 C (0, 0) _ HB1.out Tryd.underlying23 rfl (by rw [HC9.out]; exact Tryd.size_header) ?_)
  refine (HW.out).mono ?_
  rintro _ u2 ⟨A2, c2, rfl, hcap2, hsrc2, ho2⟩
  have HS2 := Lib.hid hsrc2
  have HO2 := Lib.hid (HO1.out.trans ho2)
  have HB2 := Lib.hid (HB1.out.only ho2 (fun e => e))
  have hl16 := wrB_len16 h
  have HWlt := Lib.hid (wrB_lt h)
  have HA := Lib.hid (HAw.out u2 HO2.out)
  have HK0 : Hid (ckE h = 0 → HOk h) := Lib.hid (ck_ok h).1
  clear hsrc2 ho2 HW HB1 HO1
  generalize ckE h = E at *
  obtain ⟨L, hL'⟩ : ∃ L, (wrB h).length = L := ⟨_, rfl⟩
  have HL := Lib.hid hL'
  rw [hL'] at HS2 hcap2 hl16 ⊢
  clear hL'
  have hl16i : (L : Int) ≤ 16 := by omega
  rcases (show E ≠ 0 ∨ (E = 0 ∧ x < 0) ∨ (E = 0 ∧ 0 ≤ x ∧ 8 * (L : Int) ≤ x) ∨ (E = 0 ∧ 0 ≤ x ∧ x < 8 * (L : Int) ∧ y < 1) ∨ (E = 0 ∧ 0 ≤ x ∧ x < 8 * (L : Int) ∧ 1 ≤ y ∧ 255 < y) ∨ (E = 0 ∧ 0 ≤ x ∧ x < 8 * (L : Int) ∧ 1 ≤ y ∧ y ≤ 255) from by omega) with h1 | ⟨rfl, h1⟩ | ⟨rfl, h1, h2⟩ | ⟨rfl, h1, h2, h3⟩ | ⟨rfl, h1, h2, h3, h4⟩ | ⟨rfl, h1, h2, h3, h4⟩
  · go_wp2_with fail
    refine (HA.out).mono ?_
    rintro _ u3 ⟨rfl, ho3⟩
    have HO3 := Lib.hid (HO2.out.trans ho3)
    clear ho3
    go_wp2
    go_ret
    exact ⟨rfl, HO3.out⟩
  · go_wp2_with fail
    refine (HA.out).mono ?_
    rintro _ u3 ⟨rfl, ho3⟩
    have HO3 := Lib.hid (HO2.out.trans ho3)
    clear ho3
    go_wp2
    go_ret
    exact ⟨rfl, HO3.out⟩
  · go_wp2_with fail
    refine (HA.out).mono ?_
    rintro _ u3 ⟨rfl, ho3⟩
    have HO3 := Lib.hid (HO2.out.trans ho3)
    clear ho3
    go_wp2
    go_ret
    exact ⟨rfl, HO3.out⟩
  · go_wp2_with fail
    refine (HA.out).mono ?_
    rintro _ u3 ⟨rfl, ho3⟩
    have HO3 := Lib.hid (HO2.out.trans ho3)
    clear ho3
    go_wp2
    go_ret
    exact ⟨rfl, HO3.out⟩
  · go_wp2_with fail
    refine (HA.out).mono ?_
    rintro _ u3 ⟨rfl, ho3⟩
    have HO3 := Lib.hid (HO2.out.trans ho3)
    clear ho3
    go_wp2
    go_ret
    exact ⟨rfl, HO3.out⟩
  · have k0 := HK0.out rfl
    obtain ⟨k, rfl⟩ : ∃ k : Nat, x = k := ⟨x.toNat, by omega⟩
    obtain ⟨dm, rfl⟩ : ∃ k : Nat, y = k := ⟨y.toNat, by omega⟩
    have hcd : HdOk (wrB h) := (hd_forth k0).1
    have HK := Lib.hid k0
    have hpos : 0 < L := by have := (hd_forth k0).2.2; rw [HL.out] at this; omega
    have hA2 : A2 ≠ none := src_some HS2.out (by rw [HL.out]; exact hpos)
    obtain ⟨ad2, rfl⟩ : ∃ ad, A2 = some ad := by cases A2 with | none => exact absurd rfl hA2 | some ad => exact ⟨ad, rfl⟩
    clear hcd hA2 k0 HK0 HA
    go_wp2_with (at_builtin; refine U.wpList_append_bytes rfl (.tmp 43) (.tmp 44) rfl u2.heap.size (.slice none 0 0) 0 [] rfl (World.ownsRow_nil _ _ _ _) (some ad2) L c2 (wrB h) rfl HS2.out (by omega) (Nat.le_refl _) ?rest)
    case rest =>
      intro w2 u3 hown2 hgr2 _
      have o2 : Only Nix u2 u3 := grown_nix (Only.refl _ _) (World.ownsRow_nil _ _ _ _) (Nat.le_refl _) hgr2
      have hown3 := hown2
      rcases hown3.2 with ⟨_, h0⟩ | ⟨g, cap, cur, rfl, hbg, hg, hle, _, hcz, htk⟩
      · omega
      have hcur : cur = (((wrB h).map byt) ++ cur.toList.drop L).toArray := by
        rw [← htk, Nat.mul_one, List.take_append_drop]
      have HBy : Hid (ByB u3 g (wrB h) (cur.toList.drop L)) := Lib.hid (by unfold ByB Box; rw [← hcur]; exact hg)
      generalize cur.toList.drop L = tl at *
      have HB3 := Lib.hid (HB2.out.only o2 (fun e => e))
      have hgb : w.heap.size < g := by have := HB2.out.lt; omega
      have HO3 := Lib.hid (HO2.out.trans o2)
      clear hown2 hown3 hgr2 HB2 o2 hg hcz htk hcur hbg
      go_wp2
      go_loopw [10, 11] (fun s10 s11 wr => SeeRel w g w.heap.size C (wrB h) tl k s10 s11 wr) (fun _ s11 _ => 8 - (intOf s11).toNat)
      case atStart => exact ⟨0, wrB h, false, by omega, rfl, rfl, rfl, HWlt.out, HBy.out, U.seen_start _ _ _ _, fun _ => rfl, HO3.out, HB3.out⟩
      case round =>
        clear HBy HB3 HO3
        obtain ⟨i, cs, turned, hi8, rfl, rfl, hl, hlt, hB, hS, hsame, ho, hbx⟩ := hrel
        have HLn := Lib.hid (hl.trans HL.out)
        have HSame := Lib.hid hsame
        have HOr := Lib.hid ho
        have HBx := Lib.hid hbx
        have HLt := Lib.hid hlt
        have HB := Lib.hid hB
        have HS := Lib.hid hS
        clear hl hsame ho hbx hlt hB hS
        by_cases hi16 : i < 8
        · obtain ⟨j, hj, hj2⟩ : ∃ j : Nat, 7 - (i : Int) = (j : Int) ∧ j = 7 - i := ⟨7 - i, by omega, rfl⟩
          obtain ⟨q, hk1, hk2⟩ : ∃ q : Nat, (k : Int) + (i : Int) = (q : Int) ∧ q = k + i := ⟨k + i, by omega, rfl⟩
          have HJ := Lib.hid hj2
          have HKq := Lib.hid hk2
          have hjb : j ≤ 7 := by omega
          have hkb : q ≤ 4000 := by omega
          clear hj2 hk2
          have e5 : (dm : Int) / 2 ^ j = ((dm / 2 ^ j : Nat) : Int) := by rw [pow_cast, ← Int.natCast_ediv]
          have hle : dm / 2 ^ j ≤ dm := Nat.div_le_self _ _
          have hbit : Hid (bits .and .i64 ((dm : Int) / 2 ^ j) 1 = ((dm / 2 ^ j % 2 : Nat) : Int)) := by
            show _ = _
            rw [e5, U.i64_and_one _ (by omega)]
          clear e5 hle
          have hi2 : (i : Int) < 8 := by omega
          by_cases ht : dm / 2 ^ j % 2 = 1
          · have hd : (bits .and .i64 ((dm : Int) / 2 ^ j) 1 == 1) = true := by rw [hbit.out, ht]; decide
            by_cases hkl : q < 8 * L
            · have hkl2 : (q : Int) < 8 * (L : Int) := by omega
              have hcl : q / 8 < cs.length := by have := HLn.out; omega
              have hc := Box.cell HB.out (q / 8)
              have hf := Box.frozen HB.out (q / 8)
              have e6 : (((cs.map byt) ++ tl).toArray)[q / 8]? = some (.int .u8 (cs[q / 8] : Nat)) := by simp [hcl, List.getElem?_append_left, byt]
              rw [e6] at hc
              have hx : cs[q / 8] < 256 := HLt.out _ (List.getElem_mem hcl)
              have hg : Hid (cs.getD (q / 8) 0 = cs[q / 8]) := by
                show _ = _
                rw [List.getD_eq_getElem?_getD, List.getElem?_eq_getElem hcl]; rfl
              have i1 : ((q : Int) / 8).toNat = q / 8 := by omega
              have i2 : 0 ≤ (q : Int) / 8 := by omega
              have i3 : (q : Int) / 8 < (L : Int) := by omega
              have HCl := Lib.hid hcl
              clear e6
              generalize cs[q / 8] = z at *
              clear hcl
              go_wp2_with fail
              go_region
              go_wp2
              go_roundw
              case rel =>
                have hb := U.seen_set (by decide) (by rw [HLn.out, HL.out]) hi16 (by rw [HL.out]; have := HKq.out; omega) HS.out
                rw [← HKq.out] at hb
                exact ⟨i + 1, U.tog cs q, true, by omega, by go_num, rfl, by rw [U.tog_len, HLn.out, HL.out], U.tog_lt cs q HLt.out, see_put HB.out HCl.out hg.out hx, hb, (fun e => by cases e), (HOr.out.setCell (.inr (by show w.heap.size ≤ g; omega)) _).drew, (HBx.out.off (by show w.heap.size ≠ g; omega) _).drew⟩
              case measure => simp [intOf]; omega
            · have hkl2 : 8 * (L : Int) ≤ (q : Int) := by omega
              go_wp2
              go_roundw
              case rel => exact ⟨i + 1, cs, turned, by omega, by go_num, rfl, by rw [HLn.out, HL.out], HLt.out, HB.out, U.seen_skip HS.out, HSame.out, HOr.out, HBx.out⟩
              case measure => simp [intOf]; omega
          · have h0 : dm / 2 ^ j % 2 = 0 := by omega
            have hd : (bits .and .i64 ((dm : Int) / 2 ^ j) 1 == 1) = false := by rw [hbit.out, h0]; decide
            go_wp2
            go_roundw
            case rel => exact ⟨i + 1, cs, turned, by omega, by go_num, rfl, by rw [HLn.out, HL.out], HLt.out, HB.out, U.seen_skip HS.out, HSame.out, HOr.out, HBx.out⟩
            case measure => simp [intOf]; omega
        · obtain rfl : i = 8 := by omega
          have hge : ¬ ((8 : Nat) : Int) < 8 := by omega
          have hCs := Lib.hid (ByB.src (n := L) (c := cap) HB.out HLn.out (by have := HLn.out; omega) HLt.out)
          have HR := Lib.hid (HRd.out wr (some ⟨g, 0, none⟩) L cap cs HOr.out hCs.out hle (fun e => by cases e))
          cases turned
          · have hcs := HSame.out rfl
            obtain ⟨f1, f2, _⟩ := rd_forth HK.out []
            rw [List.append_nil] at f1 f2
            rw [hcs, f1, f2] at HR
            clear f1 f2 hcs
            generalize rdN (wrB h) = N1 at *
            go_wp2_with fail
            refine (HR.out).mono ?_
            rintro _ v1 ⟨rfl, hov⟩
            have HOv := Lib.hid (HOr.out.trans hov)
            have HBw := Lib.hid (HBx.out.only hov (fun e => e))
            have HBv := Lib.hid (Box.new v1 23 (hc hd0))
            have hlv : w.heap.size < v1.heap.size := HBw.out.lt
            clear hov HR
            go_wp2_with (refine wpList_store_row rfl 23 (.tmp 13) (.tmp 82) rfl rfl v1.heap.size 23 (hc hd0) (hc h) rfl rfl HBv.out Tryd.size_header rfl (hc_one _) ?st)
            case st =>
              intro v2 hbz hoz
              have BX2 := Lib.hid hbz
              have hb6 := (HBw.out.alloc (.cells (hc hd0) 23)).only hoz (fun e => by have e2 : w.heap.size = v1.heap.size := e; omega)
              rw [← HC.out] at hb6
              have HB6 := Lib.hid hb6
              have HOw : Hid (Only Nix w v2) := Lib.hid ((HOv.out.alloc (.cells (hc hd0) 23)).then hoz (fun k e => .inr (by rw [show k = v1.heap.size from e]; exact HOv.out.size)))
              have HA5 := Lib.hid (HAw.out v2 HOw.out)
              have hq1 := run_eql_hd h
              have hq2 := guard_hd
              clear hbz hoz hb6
              go_wp2_with (first
                | refine wpList_load_row_g 2 89 true rfl rfl rfl 23 (.tmp 13) rfl v1.heap.size rfl 23 (hc h) (0, 0) _ BX2.out Tryd.underlying23 rfl Tryd.size_header ?_
                | refine wpList_load_row_g 2 89 true rfl rfl rfl 23 (.tmp 3) rfl w.heap.size rfl 23 (hc h) (0, 0) _ HB6.out Tryd.underlying23 rfl Tryd.size_header ?_)
              refine (HA5.out).mono ?_
              rintro _ v5 ⟨rfl, ho6⟩
              have HO6 := Lib.hid (HOw.out.trans ho6)
              clear ho6 hq1 hq2
              go_wp2
              go_ret
              exact ⟨rfl, HO6.out⟩
          · have hno := seen_no HK.out (by rw [HLn.out, HL.out]) HLt.out HS.out
            rw [HL.out] at hno
            have HNo := Lib.hid hno
            clear hno
            generalize rdE cs = E5 at *
            generalize rdN cs = N1 at *
            generalize rdX cs = X1 at *
            go_wp2_with fail
            refine (HR.out).mono ?_
            rintro _ v1 ⟨rfl, hov⟩
            have HOv := Lib.hid (HOr.out.trans hov)
            have HBv := Lib.hid (Box.new v1 23 (hc hd0))
            clear hov HR
            go_wp2_with (refine wpList_store_row rfl 23 (.tmp 13) (.tmp 82) rfl rfl v1.heap.size 23 (hc hd0) (hc X1) rfl rfl HBv.out Tryd.size_header rfl (hc_one _) ?st)
            case st =>
              intro v2 hbz hoz
              have HOw : Hid (Only Nix w v2) := Lib.hid ((HOv.out.alloc (.cells (hc hd0) 23)).then hoz (fun k e => .inr (by rw [show k = v1.heap.size from e]; exact HOv.out.size)))
              have HA5 := Lib.hid (HAw.out v2 HOw.out)
              clear hbz hoz
              rcases HNo.out with hE5 | hN1
              · go_wp2_with fail
                refine (HA5.out).mono ?_
                rintro _ v5 ⟨rfl, ho6⟩
                have HO6 := Lib.hid (HOw.out.trans ho6)
                clear ho6
                go_wp2
                go_ret
                exact ⟨rfl, HO6.out⟩
              · by_cases hE5 : E5 = 0
                · subst hE5
                  have hb : (N1 != (L : Int)) = true := by rw [bne_iff_ne]; exact hN1
                  go_wp2_with fail
                  refine (HA5.out).mono ?_
                  rintro _ v5 ⟨rfl, ho6⟩
                  have HO6 := Lib.hid (HOw.out.trans ho6)
                  clear ho6
                  go_wp2
                  go_ret
                  exact ⟨rfl, HO6.out⟩
                · go_wp2_with fail
                  refine (HA5.out).mono ?_
                  rintro _ v5 ⟨rfl, ho6⟩
                  have HO6 := Lib.hid (HOw.out.trans ho6)
                  clear ho6
                  go_wp2
                  go_ret
                  exact ⟨rfl, HO6.out⟩
end Go.Proofs.YteahiigfclabfaaDoor.H
