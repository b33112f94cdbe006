/-
  DigestParts, walked.
-/
import Derived.Test.YtekmebbioalpdaaDoorDAwake
namespace Go.Proofs.YtekmebbioalpdaaDoor
open Go.RowKit

theorem step_load_row {P : Program} {ops : Array Oper} {o : Oper} {a : Act} {w : World} {K : Act → World → Prop} {Q : Exit → Act → World → Prop} {E : Prop} (hw : Region.wanted o (yielded ops a.tmps) = true) (ty : TypeId) (x : Operand) (ho : o.op = .load ty x)
    (g : Nat) (hx : a.eval x = .pointer (some ⟨g, 0, none⟩)) (t : TypeId) (cs : Array Value) (fr : Nat × Nat) (d : TypeDesc) (hg : w.heap[g]? = some (.cells cs t fr))
    (hu : P.underlying ty = some d) (hd : (match d with | .struct _ | .array _ _ => true | _ => false) = true) (hi : (P.info? ty).map (·.size) = some cs.size)
    (h : K (a.put o.dst (.agg cs)) w) : if Region.wanted o (yielded ops a.tmps) = true then Oper.wp P o a w K Q else E := by
  rw [if_pos hw]
  exact wp_load_row ty x ho g hx t cs fr d hg hu hd hi h
/-- on the way through the statement that asks four sums -/
structure PtW (W : World) (va : Value) (all : List Nat) (L : Nat → Bool) (u : World) : Prop where
  only : Only Nix W u
  begun : L 2 = false → u.heap.size = W.heap.size
  lists : L 2 = true → Lists u (.slice (some ⟨W.heap.size, 0, none⟩) 1 1) [all]
section
variable {W u u' : World} {A : Option Addr} {n c : Nat} {va : Value} {all : List Nat} {L : Nat → Bool} {i : Nat}
theorem PtW.same (h : PtW W va all L u) (hi : 2 ≠ i) : PtW W va all (andOne L i) u := by
  refine ⟨h.only, fun e => h.begun ?_, fun e => h.lists ?_⟩
  · unfold andOne at e; rwa [if_neg hi] at e
  · unfold andOne at e; rwa [if_neg hi] at e
theorem PtW.went (h : PtW W va all L u) (ho : Only Nix u u') (h2 : L 2 = true) (hi : 2 ≠ i) : PtW W va all (andOne L i) u' := by
  refine ⟨h.only.trans ho, fun e => ?_, fun e => (h.lists h2).nix ho⟩
  unfold andOne at e
  rw [if_neg hi, h2] at e
  cases e
theorem PtW.built (h : PtW W (.slice A n c) all L u) (hs : ∀ u, Only Nix W u → Src u (.slice A n c) all) (hn : n ≤ c) (h2 : L 2 = false) : PtW W (.slice A n c) all (andOne L 2) (u.alloc (.cells #[.slice A n c] 22)) := by
  refine ⟨h.only.alloc _, fun e => ?_, fun _ => ?_⟩
  · unfold andOne at e
    rw [if_pos rfl] at e
    cases e
  · have := lists1 (hs u h.only) hn 22
    rwa [h.begun h2] at this
end
theorem owns_le {w : World} {base n c : Nat} {A : Option Addr} {xs : List Value} (h : w.ownsRow base 5 1 (.slice A n c) n xs) : n ≤ c := by
  rcases h.2 with ⟨hv, h0⟩ | ⟨g, cap, cur, hv, _, _, hle, _⟩
  · omega
  · injection hv with _ _ e
    omega
theorem lists_take {w : World} {A : Option Addr} {n c : Nat} {bss : List (List Nat)} (h : Lists w (.slice A n c) bss) (k d : Nat) (hk : k ≤ bss.length) : Lists w (.slice A k d) (bss.take k) := by
  have hl : (bss.take k).length = k := by rw [List.length_take]; omega
  refine ⟨⟨A, d, by rw [hl], fun j hj => ?_⟩, by have := h.small; omega⟩
  obtain ⟨ad, A', c', h1, h2, h3, h4⟩ := h.at_ (k := j) (by omega)
  simp only [List.getElem_take]
  exact ⟨ad, A', c', h1, h2, h3, h4⟩

def PartsP (w : World) (b : Nat) (bss : List (List Nat)) (s4 s5 : Value) (wr : World) : Prop :=
  ∃ i : Nat, i ≤ bss.length ∧ s5 = iv i ∧ wr.ownsRow (b + 1) 5 1 s4 (bss.take i).flatten.length ((bss.take i).flatten.map byt) ∧ (bss.take i).flatten.length ≤ 100 * i ∧ St wr b 58 (bss.take i).flatten ∧ b < wr.heap.size ∧ Only Nix w wr

theorem flat_lt {bss : List (List Nat)} (h : ∀ bs ∈ bss, ∀ x ∈ bs, x < 256) (i : Nat) : ∀ x ∈ (bss.take i).flatten, x < 256 := by
  intro x hx
  obtain ⟨bs, hb, hx⟩ := List.mem_flatten.1 hx
  exact h bs (List.mem_of_mem_take hb) x hx

set_option maxRecDepth 100000 in
set_option maxHeartbeats 4000000 in
theorem parts_in (A : Option Addr) (c : Nat) (bss : List (List Nat)) (w : World) (hL : Laid w) (hl : Lists w (.slice A bss.length c) bss) (hc : bss.length ≤ c) (h20 : bss.length ≤ 20) :
    Calls Tryd.prog 4 #[.slice A bss.length c] w fun e w' => e = .returned (.bool true) ∧ Only Nix w w' := by
  have HL : Hid (∀ u, Only Nix w u → Laid u) := fun u o => hL.nix o
  have Hl := Lib.hid hl
  have hw2 := hL.size
  have h20i : ¬ (20 : Int) < (bss.length : Int) := by omega
  have HLt : Hid (∀ bs ∈ bss, ∀ x ∈ bs, x < 256) := by
    refine Lib.hid (fun bs hb => ?_)
    obtain ⟨j, hj, rfl⟩ := List.mem_iff_getElem.1 hb
    obtain ⟨_, _, _, _, _, _, hs⟩ := Hl.out.at_ hj
    exact hs.lt
  clear hL hl
  go_enter Tryd.func4, Tryd.ntmps4
  go_wp2_with fail
  refine (new_any _).mono ?_
  rintro e w1 ⟨b, rfl, hb, hS1, o1⟩
  have hb1 : b < w1.heap.size := by obtain ⟨pt, h, _⟩ := hS1; exact h.lt
  have HS1 := Lib.hid hS1
  clear hS1
  go_wp2
  go_loopw [4, 5] (fun s4 s5 wr => PartsP w b bss s4 s5 wr) (fun _ s5 _ => bss.length - (intOf s5).toNat)
  case atStart => exact ⟨0, Nat.zero_le _, rfl, World.ownsRow_nil _ _ _ _, Nat.zero_le _, HS1.out, hb1, o1⟩
  case round =>
    obtain ⟨i, hi, rfl, hO, hfl, hS, hbw, ho⟩ := hrel
    by_cases hlt : i < bss.length
    · obtain ⟨ad0, A', c', rfl, hx, hle, hs⟩ := (Hl.out.nix ho).at_ hlt
      obtain ⟨ad1, A1, c1, e1, hx1, hle1, hs1⟩ := Hl.out.at_ hlt
      injection e1 with e1
      subst e1
      have hx2 := cell_keep ho hx1
      rw [hx] at hx2
      injection hx2 with hx2
      injection hx2 with e2 _ e3
      subst e2 e3
      have hlt2 : (i : Int) < (bss.length : Int) := by omega
      have hi20 : (i : Int) < 20 := by omega
      by_cases h100 : bss[i].length ≤ 100
      · have h100i : ¬ (100 : Int) < (bss[i].length : Int) := by omega
        have hAb : ∀ a', A' = some a' → 0 < bss[i].length → a'.block ≠ b := fun a' e hn => by subst e; exact src_block hs1 hb hn
        have HLN := Lib.hid (lists1N (b := b) hs hle hbw hAb 22)
        have a1 := (Only.refl Nix wr).alloc (.cells #[.slice A' bss[i].length c'] 22)
        have HAd := Lib.hid (add_any (HL.out _ (ho.trans a1)) b (by omega) _ (hS.only a1 (fun e => e)) _ 1 1 [bss[i]] HLN.out (by rw [List.flatten_singleton]; omega))
        rw [List.flatten_singleton, ← flat_step bss i hlt] at HAd
        have hfs := Lib.hid (flat_step bss i hlt)
        have HOr := Lib.hid hO
        have HX1 := Lib.hid hx1
        have HSrc : Hid (∀ u, Only Nix w u → Src u (.slice A' bss[i].length c') bss[i]) := Lib.hid (fun u o => hs1.nix o)
        obtain ⟨A4, c4, rfl⟩ := owns_slice hO
        obtain ⟨all, hall⟩ : ∃ all, Hid ((bss.take (i + 1)).flatten = all) := ⟨_, Lib.hid rfl⟩
        obtain ⟨al0, hal0⟩ : ∃ al0, Hid ((bss.take i).flatten = al0) := ⟨_, Lib.hid rfl⟩
        rw [hall.out] at HAd hfs
        rw [hal0.out] at HOr hfs hfl ⊢
        obtain ⟨bi, hbi⟩ : ∃ bi, Hid (bss[i] = bi) := ⟨_, Lib.hid rfl⟩
        rw [hbi.out] at h100 h100i HAd hfs HSrc hx a1
        have hal : all.length ≤ 100 * (i + 1) := by rw [hfs.out, List.length_append]; omega
        have hll : Hid (all.length = al0.length + bi.length) := Lib.hid (by rw [hfs.out, List.length_append])
        have HallT : Hid (∀ x ∈ all, x < 256) := Lib.hid (by rw [← hall.out]; exact flat_lt HLt.out _)
        clear hO hS hs hs1 hx1 hAb HLN hle1
        go_wp2_with fail
        refine (HAd.out).mono ?_
        rintro e w2 ⟨rfl, hS2, o2⟩
        have o2a : Only Nix w w2 := (ho.trans a1).then o2 (fun k e => .inr (by unfold Just at e; omega))
        have hx3 : w2.cell? (ad0.add i) = some (.slice A' bi.length c') := by
          have hh := cell_keep o2a HX1.out
          rw [hbi.out] at hh
          exact hh
        have hsz2 : b < w2.heap.size := Nat.lt_of_lt_of_le hbw (Nat.le_trans a1.size o2.size)
        have HO2 : Hid (w2.ownsRow (b + 1) 5 1 (.slice A4 al0.length c4) al0.length (al0.map byt)) := Lib.hid (owns_only (owns_only HOr.out a1 (fun _ _ e => e)) o2 (fun g hg e => by
          unfold Just at e
          have := (HOr.out.lt g hg).1
          omega))
        have Hs2 := Lib.hid (HSrc.out w2 o2a)
        have HS2 := Lib.hid hS2
        clear hS2 hx
        go_wp2_with (at_builtin; refine wpList_append_bytes rfl (.tmp 40) (.tmp 44) rfl (b + 1) (.slice A4 al0.length c4) al0.length (al0.map byt) rfl HO2.out A' bi.length c' bi rfl Hs2.out (by omega) (by omega) ?rest)
        case rest =>
          intro v3 w3 hO3 hgr _
          rw [← List.map_append, ← hfs.out, ← hll.out] at hO3
          have o3 : Only (From (b + 1)) w2 w3 := (Only.refl _ w2).grown hgr (fun k e => .inl (HO2.out.lt k e).1)
          have o3a : Only Nix w w3 := o2a.then o3 (fun k e => .inr (by unfold From at e; omega))
          have hS3 := HS2.out.only o3 (fun e => by unfold From at e; omega)
          have HDs := Lib.hid (dsum_any (HL.out _ o3a) b all hS3 (by omega))
          have HS3 := Lib.hid hS3
          have HO3 := Lib.hid hO3
          have hbw3 : b < w3.heap.size := Nat.lt_of_lt_of_le hsz2 o3.size
          clear hgr hS3 hx3
          obtain ⟨A5, c5, rfl⟩ := owns_slice hO3
          have hn5 := owns_le hO3
          clear hO3
          have Hri := Lib.hid (mdi all)
          have Hml : Hid (((md all).map byt).length = 16) := Lib.hid (by rw [List.length_map, md_len])
          have HM1 := Lib.hid (map_byt_one (md all))
          have hneq := run_neq_16 (md all) (md_len all)
          obtain ⟨MB, hMB⟩ : ∃ MB, Hid ((md all).map byt = MB) := ⟨_, Lib.hid rfl⟩
          rw [hMB.out] at HDs Hri Hml HM1 hneq
          have Hri2 : Hid ((Tryd.prog.info? 24).map (·.size) = some MB.toArray.size) := Lib.hid (by rw [List.size_toArray]; exact Hri.out)
          go_wp2_with fail
          refine (HDs.out).mono ?_
          rintro e w4 ⟨rfl, o4⟩
          go_upto_region 13 with (refine wpList_store_arr rfl rfl 24 _ _ rfl w4.heap.size 0 MB rfl rfl ((Box.new _ _ _).there (by rw [Hml.out]; exact Nat.le_refl 16)) Hri.out HM1.out ?_)
          have o34 := (o4.alloc (.cells (List.replicate 16 (Value.int .u8 0)).toArray 24)).setCells (b := w4.heap.size) (.inr o4.size) MB 0
          have hG := (Box.new w4 24 (List.replicate 16 (Value.int .u8 0)).toArray).setAll (vs := MB) (by rw [Hml.out]; rfl)
          change Code.wp _ _ _ _ ((w4.alloc (.cells (List.replicate 16 (Value.int .u8 0)).toArray 24)).setCells w4.heap.size 0 MB)
          generalize (w4.alloc (.cells (List.replicate 16 (Value.int .u8 0)).toArray 24)).setCells w4.heap.size 0 MB = W at *
          generalize w4.heap.size = gx at *
          have oW : Only Nix w W := o3a.trans o34
          obtain ⟨n4, hn4e⟩ : ∃ n4, Hid (all.length = n4) := ⟨_, Lib.hid rfl⟩
          rw [hn4e.out] at hn5 HO3 hal ⊢
          have hn4 : n4 ≤ c5 := hn5
          have HAll : Hid (∀ u, Only Nix W u → Src u (.slice A5 n4 c5) all) := Lib.hid (fun u o => (owns_src HO3.out (by rw [hn4e.out]; omega) HallT.out).nix (o34.trans o))
          have HG : Hid (∀ u, Only Nix W u → Box u gx 24 MB.toArray) := Lib.hid (fun u o => hG.only o (fun e => e))
          have HDs : Hid (∀ u, Only Nix W u → Calls Tryd.prog 13 #[.pointer (some ⟨b, 0, none⟩)] u fun e w' => e = .returned (.agg MB.toArray) ∧ Only Nix u w') := by
            refine Lib.hid (fun u o => ?_)
            rw [← hMB.out]
            exact dsum_any (HL.out _ (oW.trans o)) b all (HS3.out.only (o34.trans o) (fun e => e)) (by rw [hn4e.out]; omega)
          have HLn : Hid (∀ u, Only Nix W u → Calls Tryd.prog 14 #[.pointer (some ⟨b, 0, none⟩)] u fun e w' => e = .returned (iv (n4 : Int)) ∧ Only Nix u w') := by
            refine Lib.hid (fun u o => ?_)
            rw [← hn4e.out]
            exact (dlen_any b all (HS3.out.only (o34.trans o) (fun e => e))).mono fun _ _ hh => ⟨hh.1, by rw [← hh.2]; exact Only.refl _ _⟩
          have HSa : Hid (∀ u, Only Nix W u → Lists u (.slice (some ⟨W.heap.size, 0, none⟩) 1 1) [all] → Calls Tryd.prog 9 #[.slice (some ⟨W.heap.size, 0, none⟩) 1 1] u fun e w' => e = .returned (.agg MB.toArray) ∧ Only Nix u w') := by
            refine Lib.hid (fun u o hl => ?_)
            have h := sum_any (HL.out _ (oW.trans o)) _ 1 1 [all] hl (by rw [List.flatten_singleton, hn4e.out]; omega)
            rw [List.flatten_singleton, hMB.out] at h
            exact h
          have HSp : Hid (∀ u, Only Nix W u → Calls Tryd.prog 9 #[.slice (some ad0) (i + 1) c] u fun e w' => e = .returned (.agg MB.toArray) ∧ Only Nix u w') := by
            refine Lib.hid (fun u o => ?_)
            have h := sum_any (HL.out _ (oW.trans o)) _ (i + 1) c (bss.take (i + 1)) (lists_take (Hl.out.nix (oW.trans o)) (i + 1) c (by omega)) (by rw [hall.out, hn4e.out]; omega)
            rw [hall.out, hMB.out] at h
            exact h
          have noOut : ∀ j s, j < 27 → (([some 48, some 49, some 50, some 51, some 52, some 53, some 54, some 55, some 56, some 57, some 58, some 59, some 60, some 61, some 62, some 63, some 64, some 65, some 66, some 67, some 68, some 69, some 70, some 71, some 72, some 73, some 74] : List (Option Nat)).all fun d => d != some s) = true → ([some 48, some 49, some 50, some 51, some 52, some 53, some 54, some 55, some 56, some 57, some 58, some 59, some 60, some 61, some 62, some 63, some 64, some 65, some 66, some 67, some 68, some 69, some 70, some 71, some 72, some 73, some 74] : List (Option Nat)).getD j none ≠ some s := by
            intro j s hj ha e
            rw [List.getD_eq_getElem?_getD, List.getElem?_eq_getElem (by exact hj), Option.getD_some] at e
            have := List.all_eq_true.1 ha _ (List.getElem_mem (by exact hj))
            rw [e] at this
            simp at this
          have hi1 : (i : Int) + 1 ≤ (c : Int) := by omega
          have hi2 : (0 : Int) ≤ (i : Int) + 1 := by omega
          have hi3 : ((i : Int) + 1).toNat = i + 1 := by omega
          have hwi : IntKind.i64.wrap ((i : Int) + 1) = (i : Int) + 1 := wraps_i64 _ (by omega) (by omega)
          have hl20 : bss.length < 1000 := by omega
          have HS4 : Hid (St W b 58 all) := Lib.hid (HS3.out.only o34 (fun e => e))
          have HO4 : Hid (W.ownsRow (b + 1) 5 1 (.slice A5 n4 c5) n4 (all.map byt)) := Lib.hid (owns_only HO3.out o34 (fun _ _ e => e))
          have hbW : b < W.heap.size := Nat.lt_of_lt_of_le hbw3 o34.size
          clear HS3 hG HO3 o3 o2 a1 HS2 Hs2 HO2 HOr HAd hfs
          refine region_val (by kernel_rfl) (fun k0 => ([some 48, some 49, some 50, some 51, some 52, some 53, some 54, some 55, some 56, some 57, some 58, some 59, some 60, some 61, some 62, some 63, some 64, some 65, some 66, some 67, some 68, some 69, some 70, some 71, some 72, some 73, some 74] : List (Option Nat)).getD k0 none) (fun k0 => ([(.agg MB.toArray), (.slice A5 n4 c5), (.slice (some ⟨W.heap.size, 0, none⟩) 1 1), (.agg MB.toArray), (.bool false), (.bool false), (.agg MB.toArray), (.pointer (some ⟨b, 0, none⟩)), (.agg MB.toArray), (.bool false), (.bool false), (.bool false), (.pointer (some ⟨b, 0, none⟩)), (iv (n4 : Int)), (.slice A5 n4 c5), (iv (n4 : Int)), (.bool false), (.bool false), (.bool false), (.agg MB.toArray), (.slice (some ad0) bss.length c), (iv (i : Int)), (iv ((i : Int) + 1)), (.slice (some ad0) (i + 1) c), (.agg MB.toArray), (.bool false), (.bool false)] : List Value).getD k0 undef) (PtW W (.slice A5 n4 c5) all) 76 27 rfl (by kernel_rfl) (by kernel_rfl) rfl (by kernel_rfl) (by kernel_rfl) ⟨(Only.refl _ _).drew, fun _ => rfl, fun e => by cases e⟩ ?steps [(48, .agg MB.toArray), (49, .slice A5 n4 c5), (50, .slice (some ⟨W.heap.size, 0, none⟩) 1 1), (51, .agg MB.toArray), (52, .bool false), (53, .bool false), (54, .agg MB.toArray), (55, .pointer (some ⟨b, 0, none⟩)), (56, .agg MB.toArray), (57, .bool false), (58, .bool false), (59, .bool false), (60, .pointer (some ⟨b, 0, none⟩)), (61, iv (n4 : Int)), (62, .slice A5 n4 c5), (63, iv (n4 : Int)), (64, .bool false), (65, .bool false), (66, .bool false), (67, .agg MB.toArray), (68, .slice (some ad0) bss.length c), (69, iv (i : Int)), (70, iv ((i : Int) + 1)), (71, .slice (some ad0) (i + 1) c), (72, .agg MB.toArray), (73, .bool false), (74, .bool false)] rfl ?done
          case steps =>
            refine ⟨?_, ?_, ?_, ?_, ?_, ?_, ?_, ?_, ?_, ?_, ?_, ?_, ?_, ?_, ?_, ?_, ?_, ?_, ?_, ?_, ?_, ?_, ?_, ?_, ?_, ?_, ?_, trivial⟩
            · intro L A' u hW hL0 hnd K' hK
              have r6 : A'.tmps[6]? = some (.pointer (some ⟨gx, 0, none⟩)) := (hW.out 6 (fun j hj => noOut j 6 hj (by kernel_rfl))).trans rfl
              refine step_load_row rfl 24 (.tmp 6) rfl gx (by simp [Act.eval, r6]) 24 MB.toArray (0, 0) _ (HG.out u hW.wi.only) Tryd.underlying24 rfl Hri2.out ?_
              exact hK _ (hW.wi.same (by decide))
            · intro L A' u hW hL0 hnd K' hK
              have r4 : A'.tmps[4]? = some (.slice A5 n4 c5) := (hW.out 4 (fun j hj => noOut j 4 hj (by kernel_rfl))).trans rfl
              go_simp
              exact hK _ (hW.wi.same (by decide))
            · intro L A' u hW hL0 hnd K' hK
              have r49 : A'.tmps[49]? = some (.slice A5 n4 c5) := hW.val 1 49 (by decide) (hnd 1 (by kernel_rfl)) rfl
              have hu := hW.wi.begun hL0
              have HU := Lib.hid (hW.wi.built HAll.out hn4 hL0)
              go_simp
              exact hK _ HU.out
            · intro L A' u hW hL0 hnd K' hK
              have r50 : A'.tmps[50]? = some (.slice (some ⟨W.heap.size, 0, none⟩) 1 1) := hW.val 2 50 (by decide) (hnd 2 (by kernel_rfl)) rfl
              have l2 : L 2 = true := hnd 2 (by kernel_rfl)
              have HC := Lib.hid (HSa.out u hW.wi.only (hW.wi.lists l2))
              go_simp
              refine (HC.out).mono ?_
              rintro e' u' ⟨rfl, ho'⟩
              exact hK _ (hW.wi.went ho' l2 (by decide))
            · intro L A' u hW hL0 hnd K' hK
              have r48 : A'.tmps[48]? = some (.agg MB.toArray) := hW.val 0 48 (by decide) (hnd 0 (by kernel_rfl)) rfl
              have r51 : A'.tmps[51]? = some (.agg MB.toArray) := hW.val 3 51 (by decide) (hnd 3 (by kernel_rfl)) rfl
              go_simp
              exact hK _ (hW.wi.same (by decide))
            · intro L A' u hW hL0 hnd K' hK
              have r52 : A'.tmps[52]? = some (.bool false) := hW.val 4 52 (by decide) (hnd 4 (by kernel_rfl)) rfl
              go_simp
              exact hK _ (hW.wi.same (by decide))
            · intro L A' u hW hL0 hnd K' hK
              have r53 : A'.tmps[53]? = some (.bool false) := hW.val 5 53 (by decide) (hnd 5 (by kernel_rfl)) rfl
              have r6 : A'.tmps[6]? = some (.pointer (some ⟨gx, 0, none⟩)) := (hW.out 6 (fun j hj => noOut j 6 hj (by kernel_rfl))).trans rfl
              refine step_load_row (by simp [Region.wanted, yielded, r53]) 24 (.tmp 6) rfl gx (by simp [Act.eval, r6]) 24 MB.toArray (0, 0) _ (HG.out u hW.wi.only) Tryd.underlying24 rfl Hri2.out ?_
              exact hK _ (hW.wi.same (by decide))
            · intro L A' u hW hL0 hnd K' hK
              have r53 : A'.tmps[53]? = some (.bool false) := hW.val 5 53 (by decide) (hnd 5 (by kernel_rfl)) rfl
              have r3 : A'.tmps[3]? = some (.pointer (some ⟨b, 0, none⟩)) := (hW.out 3 (fun j hj => noOut j 3 hj (by kernel_rfl))).trans rfl
              go_simp
              exact hK _ (hW.wi.same (by decide))
            · intro L A' u hW hL0 hnd K' hK
              have r55 : A'.tmps[55]? = some (.pointer (some ⟨b, 0, none⟩)) := hW.val 7 55 (by decide) (hnd 7 (by kernel_rfl)) rfl
              have r53 : A'.tmps[53]? = some (.bool false) := hW.val 5 53 (by decide) (hnd 5 (by kernel_rfl)) rfl
              have l5 : L 5 = true := hnd 5 (by kernel_rfl)
              have l4 : L 4 = true := hW.closed 5 _ 4 rfl l5 (by kernel_rfl)
              have l3 : L 3 = true := hW.closed 4 _ 3 rfl l4 (by kernel_rfl)
              have l2 : L 2 = true := hW.closed 3 _ 2 rfl l3 (by kernel_rfl)
              have HC := Lib.hid (HDs.out u hW.wi.only)
              go_simp
              refine (HC.out).mono ?_
              rintro e' u' ⟨rfl, ho'⟩
              exact hK _ (hW.wi.went ho' l2 (by decide))
            · intro L A' u hW hL0 hnd K' hK
              have r54 : A'.tmps[54]? = some (.agg MB.toArray) := hW.val 6 54 (by decide) (hnd 6 (by kernel_rfl)) rfl
              have r56 : A'.tmps[56]? = some (.agg MB.toArray) := hW.val 8 56 (by decide) (hnd 8 (by kernel_rfl)) rfl
              have r53 : A'.tmps[53]? = some (.bool false) := hW.val 5 53 (by decide) (hnd 5 (by kernel_rfl)) rfl
              go_simp
              exact hK _ (hW.wi.same (by decide))
            · intro L A' u hW hL0 hnd K' hK
              have r53 : A'.tmps[53]? = some (.bool false) := hW.val 5 53 (by decide) (hnd 5 (by kernel_rfl)) rfl
              have r57 : A'.tmps[57]? = some (.bool false) := hW.val 9 57 (by decide) (hnd 9 (by kernel_rfl)) rfl
              go_simp
              exact hK _ (hW.wi.same (by decide))
            · intro L A' u hW hL0 hnd K' hK
              have r58 : A'.tmps[58]? = some (.bool false) := hW.val 10 58 (by decide) (hnd 10 (by kernel_rfl)) rfl
              go_simp
              exact hK _ (hW.wi.same (by decide))
            · intro L A' u hW hL0 hnd K' hK
              have r59 : A'.tmps[59]? = some (.bool false) := hW.val 11 59 (by decide) (hnd 11 (by kernel_rfl)) rfl
              have r3 : A'.tmps[3]? = some (.pointer (some ⟨b, 0, none⟩)) := (hW.out 3 (fun j hj => noOut j 3 hj (by kernel_rfl))).trans rfl
              go_simp
              exact hK _ (hW.wi.same (by decide))
            · intro L A' u hW hL0 hnd K' hK
              have r60 : A'.tmps[60]? = some (.pointer (some ⟨b, 0, none⟩)) := hW.val 12 60 (by decide) (hnd 12 (by kernel_rfl)) rfl
              have r59 : A'.tmps[59]? = some (.bool false) := hW.val 11 59 (by decide) (hnd 11 (by kernel_rfl)) rfl
              have l11 : L 11 = true := hnd 11 (by kernel_rfl)
              have l10 : L 10 = true := hW.closed 11 _ 10 rfl l11 (by kernel_rfl)
              have l5 : L 5 = true := hW.closed 10 _ 5 rfl l10 (by kernel_rfl)
              have l4 : L 4 = true := hW.closed 5 _ 4 rfl l5 (by kernel_rfl)
              have l3 : L 3 = true := hW.closed 4 _ 3 rfl l4 (by kernel_rfl)
              have l2 : L 2 = true := hW.closed 3 _ 2 rfl l3 (by kernel_rfl)
              have HC := Lib.hid (HLn.out u hW.wi.only)
              go_simp
              refine (HC.out).mono ?_
              rintro e' u' ⟨rfl, ho'⟩
              exact hK _ (hW.wi.went ho' l2 (by decide))
            · intro L A' u hW hL0 hnd K' hK
              have r59 : A'.tmps[59]? = some (.bool false) := hW.val 11 59 (by decide) (hnd 11 (by kernel_rfl)) rfl
              have r4 : A'.tmps[4]? = some (.slice A5 n4 c5) := (hW.out 4 (fun j hj => noOut j 4 hj (by kernel_rfl))).trans rfl
              go_simp
              exact hK _ (hW.wi.same (by decide))
            · intro L A' u hW hL0 hnd K' hK
              have r62 : A'.tmps[62]? = some (.slice A5 n4 c5) := hW.val 14 62 (by decide) (hnd 14 (by kernel_rfl)) rfl
              have r59 : A'.tmps[59]? = some (.bool false) := hW.val 11 59 (by decide) (hnd 11 (by kernel_rfl)) rfl
              go_simp
              exact hK _ (hW.wi.same (by decide))
            · intro L A' u hW hL0 hnd K' hK
              have r61 : A'.tmps[61]? = some (iv (n4 : Int)) := hW.val 13 61 (by decide) (hnd 13 (by kernel_rfl)) rfl
              have r63 : A'.tmps[63]? = some (iv (n4 : Int)) := hW.val 15 63 (by decide) (hnd 15 (by kernel_rfl)) rfl
              have r59 : A'.tmps[59]? = some (.bool false) := hW.val 11 59 (by decide) (hnd 11 (by kernel_rfl)) rfl
              go_simp
              exact hK _ (hW.wi.same (by decide))
            · intro L A' u hW hL0 hnd K' hK
              have r59 : A'.tmps[59]? = some (.bool false) := hW.val 11 59 (by decide) (hnd 11 (by kernel_rfl)) rfl
              have r64 : A'.tmps[64]? = some (.bool false) := hW.val 16 64 (by decide) (hnd 16 (by kernel_rfl)) rfl
              go_simp
              exact hK _ (hW.wi.same (by decide))
            · intro L A' u hW hL0 hnd K' hK
              have r65 : A'.tmps[65]? = some (.bool false) := hW.val 17 65 (by decide) (hnd 17 (by kernel_rfl)) rfl
              go_simp
              exact hK _ (hW.wi.same (by decide))
            · intro L A' u hW hL0 hnd K' hK
              have r66 : A'.tmps[66]? = some (.bool false) := hW.val 18 66 (by decide) (hnd 18 (by kernel_rfl)) rfl
              have r6 : A'.tmps[6]? = some (.pointer (some ⟨gx, 0, none⟩)) := (hW.out 6 (fun j hj => noOut j 6 hj (by kernel_rfl))).trans rfl
              refine step_load_row (by simp [Region.wanted, yielded, r66]) 24 (.tmp 6) rfl gx (by simp [Act.eval, r6]) 24 MB.toArray (0, 0) _ (HG.out u hW.wi.only) Tryd.underlying24 rfl Hri2.out ?_
              exact hK _ (hW.wi.same (by decide))
            · intro L A' u hW hL0 hnd K' hK
              have r66 : A'.tmps[66]? = some (.bool false) := hW.val 18 66 (by decide) (hnd 18 (by kernel_rfl)) rfl
              have r0 : A'.tmps[0]? = some (.slice (some ad0) bss.length c) := (hW.out 0 (fun j hj => noOut j 0 hj (by kernel_rfl))).trans rfl
              go_simp
              exact hK _ (hW.wi.same (by decide))
            · intro L A' u hW hL0 hnd K' hK
              have r66 : A'.tmps[66]? = some (.bool false) := hW.val 18 66 (by decide) (hnd 18 (by kernel_rfl)) rfl
              have r5 : A'.tmps[5]? = some (iv (i : Int)) := (hW.out 5 (fun j hj => noOut j 5 hj (by kernel_rfl))).trans rfl
              go_simp
              exact hK _ (hW.wi.same (by decide))
            · intro L A' u hW hL0 hnd K' hK
              have r69 : A'.tmps[69]? = some (iv (i : Int)) := hW.val 21 69 (by decide) (hnd 21 (by kernel_rfl)) rfl
              have r66 : A'.tmps[66]? = some (.bool false) := hW.val 18 66 (by decide) (hnd 18 (by kernel_rfl)) rfl
              go_simp
              exact hK _ (hW.wi.same (by decide))
            · intro L A' u hW hL0 hnd K' hK
              have r68 : A'.tmps[68]? = some (.slice (some ad0) bss.length c) := hW.val 20 68 (by decide) (hnd 20 (by kernel_rfl)) rfl
              have r70 : A'.tmps[70]? = some (iv ((i : Int) + 1)) := hW.val 22 70 (by decide) (hnd 22 (by kernel_rfl)) rfl
              have r66 : A'.tmps[66]? = some (.bool false) := hW.val 18 66 (by decide) (hnd 18 (by kernel_rfl)) rfl
              go_simp
              exact hK _ (hW.wi.same (by decide))
            · intro L A' u hW hL0 hnd K' hK
              have r71 : A'.tmps[71]? = some (.slice (some ad0) (i + 1) c) := hW.val 23 71 (by decide) (hnd 23 (by kernel_rfl)) rfl
              have r66 : A'.tmps[66]? = some (.bool false) := hW.val 18 66 (by decide) (hnd 18 (by kernel_rfl)) rfl
              have l18 : L 18 = true := hnd 18 (by kernel_rfl)
              have l17 : L 17 = true := hW.closed 18 _ 17 rfl l18 (by kernel_rfl)
              have l11 : L 11 = true := hW.closed 17 _ 11 rfl l17 (by kernel_rfl)
              have l10 : L 10 = true := hW.closed 11 _ 10 rfl l11 (by kernel_rfl)
              have l5 : L 5 = true := hW.closed 10 _ 5 rfl l10 (by kernel_rfl)
              have l4 : L 4 = true := hW.closed 5 _ 4 rfl l5 (by kernel_rfl)
              have l3 : L 3 = true := hW.closed 4 _ 3 rfl l4 (by kernel_rfl)
              have l2 : L 2 = true := hW.closed 3 _ 2 rfl l3 (by kernel_rfl)
              have HC := Lib.hid (HSp.out u hW.wi.only)
              go_simp
              refine (HC.out).mono ?_
              rintro e' u' ⟨rfl, ho'⟩
              exact hK _ (hW.wi.went ho' l2 (by decide))
            · intro L A' u hW hL0 hnd K' hK
              have r67 : A'.tmps[67]? = some (.agg MB.toArray) := hW.val 19 67 (by decide) (hnd 19 (by kernel_rfl)) rfl
              have r72 : A'.tmps[72]? = some (.agg MB.toArray) := hW.val 24 72 (by decide) (hnd 24 (by kernel_rfl)) rfl
              have r66 : A'.tmps[66]? = some (.bool false) := hW.val 18 66 (by decide) (hnd 18 (by kernel_rfl)) rfl
              go_simp
              exact hK _ (hW.wi.same (by decide))
            · intro L A' u hW hL0 hnd K' hK
              have r66 : A'.tmps[66]? = some (.bool false) := hW.val 18 66 (by decide) (hnd 18 (by kernel_rfl)) rfl
              have r73 : A'.tmps[73]? = some (.bool false) := hW.val 25 73 (by decide) (hnd 25 (by kernel_rfl)) rfl
              go_simp
              exact hK _ (hW.wi.same (by decide))
          case done =>
            intro L u hWI _
            have hou := hWI.only
            clear hWI hneq hi1 hi2 hi3 hwi noOut HSa HSp HLn HDs HG HAll Hri Hri2 HM1 Hml
            simp only [putV, List.foldl_cons, List.foldl_nil, List.setIfInBounds_toArray, List.set_cons_succ, List.set_cons_zero]
            go_wp2
            refine ⟨⟨i + 1, by omega, by go_num, ?_, ?_, ?_, Nat.lt_of_lt_of_le hbW hou.size, oW.trans hou⟩, by simp [intOf]; omega⟩
            · rw [hall.out, hn4e.out]; exact owns_only HO4.out hou (fun _ _ e => e)
            · rw [hall.out, hn4e.out]; exact hal
            · rw [hall.out]; exact HS4.out.only hou (fun e => e)
      · have h100i : (100 : Int) < (bss[i].length : Int) := by omega
        have hsm := hs.small
        clear hs hs1 hO hS
        generalize bss[i].length = lb at *
        go_wp2_with fail
        refine (aw (w := w) ho (HL.out _ ho)).mono ?_
        rintro e w5 ⟨rfl, o5⟩
        go_wp2
        go_ret
        exact ⟨rfl, o5⟩
    · obtain rfl : i = bss.length := by omega
      have hd0 : decide (bss.length < bss.length) = false := by simp
      clear hO hS
      go_wp2_with fail
      refine (aw (w := w) ho (HL.out _ ho)).mono ?_
      rintro e w5 ⟨rfl, o5⟩
      go_wp2
      go_ret
      exact ⟨rfl, o5⟩

set_option maxHeartbeats 1000000 in
theorem digestParts_walk (A : Option Addr) (c : Nat) (bss : List (List Nat)) (w : World) (hL : Laid w) (hl : Lists w (.slice A bss.length c) bss) (hc : bss.length ≤ c) :
    Calls Tryd.prog 4 #[.slice A bss.length c] w fun e w' => e = .returned (.bool true) ∧ Only Nix w w' := by
  by_cases h20 : bss.length ≤ 20
  · exact parts_in A c bss w hL hl hc h20
  · have HL : Hid (∀ u, Only Nix w u → Laid u) := fun u o => hL.nix o
    have hsm := hl.small
    have h20i : (20 : Int) < (bss.length : Int) := by omega
    clear hL hl
    go_enter Tryd.func4, Tryd.ntmps4
    go_wp2_with fail
    refine (new_any _).mono ?_
    rintro e w1 ⟨b, rfl, hb, hS1, o1⟩
    clear hS1
    go_wp2_with fail
    refine (aw (w := w) o1 (HL.out _ o1)).mono ?_
    rintro e w5 ⟨rfl, o5⟩
    go_wp2
    go_ret
    exact ⟨rfl, o5⟩
end Go.Proofs.YtekmebbioalpdaaDoor
