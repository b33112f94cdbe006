/-
  ended, walked.
-/
import Derived.Test.YtekmebbioalpdaaDoorDTake
import Derived.Test.YtekmebbioalpdaaDoorDEnding
namespace Go.Proofs.YtekmebbioalpdaaDoor
open Go.RowKit

def outs (ql : List Nat) (j : Nat) : List Nat := ((ql.take j).map (fun v => lf v 4)).flatten
theorem outs_step (ql : List Nat) (j v : Nat) (h : ql[j]? = some v) : outs ql (j + 1) = outs ql j ++ lf v 4 := by
  unfold outs
  rw [List.take_add_one, h]
  simp
theorem outs_all (q : Q) : outs [q.a, q.b, q.c, q.d] 4 = outQ q := by
  simp [outs, outQ]
theorem outs_len (ql : List Nat) : ∀ j, j ≤ ql.length → (outs ql j).length = 4 * j
  | 0, _ => by simp [outs]
  | j + 1, h => by
    have hj : ql[j]? = some ql[j] := List.getElem?_eq_getElem (by omega)
    rw [outs_step ql j _ hj, List.length_append, outs_len ql j (by omega), lf_len]
    omega
def EndedP (w5 : World) (base : Nat) (ql : List Nat) (s4 s19 : Value) (wr : World) : Prop :=
  ∃ j : Nat, j ≤ 4 ∧ s19 = iv j ∧ wr.ownsRow base 5 1 s4 (4 * j) ((outs ql j).map byt) ∧ Only (From base) w5 wr
theorem stc_one (q : Q) (p : List Nat) (n : Int) : ∀ v ∈ stc q p n, v.oneCell' = true := by
  intro v hv
  unfold stc at hv
  rcases List.mem_append.1 hv with hv | hv
  · rcases List.mem_append.1 hv with hv | hv
    · simp only [List.mem_cons, List.not_mem_nil, or_false] at hv
      rcases hv with rfl | rfl | rfl | rfl <;> rfl
    · exact map_byt_one _ _ hv
  · rw [List.mem_singleton.1 hv]; rfl
theorem owns_range {w : World} {base n : Nat} {g c : Nat} {bs : List Nat} (h : w.ownsRow base 5 1 (.slice (some ⟨g, 0, none⟩) n c) n (bs.map byt)) : w.rangeAt g 0 (bs.map byt) := fun j v hv => by
  rcases h.2 with ⟨hv', _⟩ | ⟨g', cap, cur, hv', _, hg, _, _, _, ht⟩
  · cases hv'
  · injection hv' with e1 e2 e3
    injection e1 with e1
    injection e1 with e1 _ _
    subst e1
    rw [cell_of_row w g _ cur 5 (0, 0) hg, Nat.zero_add]
    rw [← ht, List.getElem?_take] at hv
    split at hv
    · simpa using hv
    · cases hv
theorem tail_lt (n : Nat) : ∀ x ∈ tail_ n, x < 256 := by
  intro x hx
  unfold tail_ at hx
  rcases List.mem_append.1 hx with hx | hx
  · rcases List.mem_cons.1 hx with rfl | hx
    · decide
    · rw [List.eq_of_mem_replicate hx]; decide
  · exact lf_lt _ _ x hx

set_option maxHeartbeats 2000000 in
theorem ended_any {w : World} (hL : Laid w) (b : Nat) (t : TypeId) (L : List Nat) (hS : St w b t L) (hlen : L.length < 10000000000) :
    Calls Tryd.prog 24 #[.pointer (some ⟨b, 0, none⟩)] w fun e w' => e = .returned (.agg ((md L).map byt).toArray) ∧ Only Nix w w' := by
  have HL := Lib.hid hL
  have hsz := hL.size
  obtain ⟨pt, hB, hP⟩ := hS
  have hz := (zero_of_info Tryd.info_state).1
  have hl : stz.length = 69 := rfl
  have hbl := hB.lt
  obtain ⟨q, hq⟩ : ∃ q, Hid (hs (L.length / 64) L = q) := ⟨_, Lib.hid rfl⟩
  rw [hq.out] at hB
  have hcl : (stc q pt (L.length : Int)).length = 69 := by rw [stc_len, hP.len]
  have hsi : (Tryd.prog.info? 55).map (·.size) = some (stc q pt (L.length : Int)).length := by rw [hcl]; kernel_rfl
  have hsi2 : (Tryd.prog.info? 55).map (·.size) = some (stc q pt (L.length : Int)).toArray.size := by rw [List.size_toArray, hcl]; kernel_rfl
  have hcm := hB.cell 68
  rw [stc_many _ _ _ hP.len] at hcm
  have H1 := Lib.hid (stc_one q pt (L.length : Int))
  have Hsi := Lib.hid hsi
  have Hsi2 := Lib.hid hsi2
  have HB := Lib.hid hB
  have HP := Lib.hid hP
  have Hcl := Lib.hid hcl
  obtain ⟨n, hn⟩ : ∃ n, Hid (L.length = n) := ⟨_, Lib.hid rfl⟩
  have hn2 : n < 10000000000 := by rw [← hn.out]; omega
  rw [hn.out] at hcm
  clear hL hB hP hsi hsi2 hcl
  obtain ⟨S, hSS⟩ : ∃ S, Hid (stc q pt (L.length : Int) = S) := ⟨_, Lib.hid rfl⟩
  rw [hSS.out] at H1 Hsi Hsi2 HB Hcl
  have HBz : Hid (∀ o, Box ((w.alloc o).alloc (.cells stz.toArray 55)) (w.heap.size + 1) 55 stz.toArray) := by
    refine Lib.hid (fun o => ?_)
    have := Box.new (w.alloc o) 55 stz.toArray
    rw [World.size_alloc] at this
    exact this
  go_enter Tryd.func24, Tryd.ntmps24
  go_upto_region 2 with first
    | refine wpList_load_row rfl 55 _ rfl b rfl t S.toArray (0, 0) _ (HB.out.alloc _) Tryd.underlying55 rfl Hsi2.out ?_
    | refine wpList_store_arr rfl rfl 55 _ _ rfl (w.heap.size + 1) 0 S rfl rfl ((HBz.out _).there (by rw [Hcl.out]; exact Nat.le_refl 69)) Hsi.out H1.out ?_
  have hR0 := (((Box.new w 24 (List.replicate 16 (Value.int .u8 0)).toArray).alloc (.cells stz.toArray 55)).offCells (g := w.heap.size + 1) (by omega) S 0)
  have hB2 := (HBz.out (.cells (List.replicate 16 (Value.int .u8 0)).toArray 24)).setAll (vs := S) (by rw [Hcl.out]; rfl)
  have o2 := (((Only.refl Nix w).alloc (.cells (List.replicate 16 (Value.int .u8 0)).toArray 24)).alloc (.cells stz.toArray 55)).setCells (b := w.heap.size + 1) (.inr (by omega)) S 0
  have hsz2 : (((w.alloc (.cells (List.replicate 16 (Value.int .u8 0)).toArray 24)).alloc (.cells stz.toArray 55)).setCells (w.heap.size + 1) 0 S).heap.size = w.heap.size + 1 + 1 := by
    rw [size_setCells]; simp
  change Code.wp _ _ _ _ (((w.alloc (.cells (List.replicate 16 (Value.int .u8 0)).toArray 24)).alloc (.cells stz.toArray 55)).setCells (w.heap.size + 1) 0 S)
  generalize ((w.alloc (.cells (List.replicate 16 (Value.int .u8 0)).toArray 24)).alloc (.cells stz.toArray 55)).setCells (w.heap.size + 1) 0 S = W2 at *
  have HL2 := Lib.hid (HL.out.nix o2)
  have hcm2 := cell_keep o2 hcm
  have hS2 : Hid (St W2 (w.heap.size + 1) 55 L) := by
    refine Lib.hid ⟨pt, ?_, HP.out⟩
    rw [hq.out, hSS.out]
    exact hB2
  have HR0 := Lib.hid hR0
  have Ho2 := Lib.hid o2
  clear hR0 hB2 o2 hz hl HBz hcm
  go_wp2_with fail
  refine (ending_any n (by omega)).mono ?_
  rintro e w3 ⟨v3, rfl, hO3, o3⟩
  have ht1 := tail_len n
  obtain ⟨g3, c3, rfl, hg3, hc3⟩ := owns_none hO3 (by omega)
  have hv3 := owns_src hO3 (by have := tail_bd n; omega) (tail_lt n)
  have HV3 := Lib.hid hv3
  have hsz3 := o3.size
  have HTk := Lib.hid (take_any (HL2.out.nix o3) (w.heap.size + 1) 55 (by omega) L (hS2.out.only o3 (fun e => e)) _ _ _ _ HV3.out hc3 (fun ad e _ => by cases e; simp; omega) (by have := tail_bd n; omega))
  clear hv3 hO3 ht1
  go_wp2_with fail
  refine (HTk.out).mono ?_
  rintro e w4 ⟨rfl, hS4, o4⟩
  obtain ⟨pt4, hB4, hP4⟩ := hS4
  have o4n : Only Nix w w4 := (Ho2.out.trans o3).then o4 (fun i e => .inr (by unfold Just at e; omega))
  have hR4 := ((HR0.out.only o3 (fun e => e)).only o4 (fun e => by unfold Just at e; omega))
  obtain ⟨q4, hq4⟩ : ∃ q4, Hid (hs ((L ++ tail_ n).length / 64) (L ++ tail_ n) = q4) := ⟨_, Lib.hid rfl⟩
  have hok : q4.ok := by rw [← hq4.out]; exact hs_ok _ _
  have hmd : Hid (md L = outQ q4) := by
    refine Lib.hid ?_
    unfold md
    rw [hn.out, ← hq4.out, List.length_append, hn.out]
  rw [hq4.out] at hB4
  have hr4 : Hid (w4.rangeAt (w.heap.size + 1) 0 ([q4.a, q4.b, q4.c, q4.d].map wv)) := Lib.hid (range_box (pre := []) (post := pt4.map byt ++ [iv ((L ++ tail_ n).length : Int)]) (by simpa [stc] using hB4))
  have hmk : ∀ u, (Instr.makeSlice 22 (.int .i64 0) (.int .i64 16)).run Tryd.prog u = .ok (.slice (some ⟨u.heap.size, 0, none⟩) 0 16) (u.alloc (.cells (List.replicate 16 (byt 0)).toArray 5)) := fun u => run_make_lc 0 16 (by omega) (by omega) u
  have hni : (Tryd.prog.info? 52).map (·.size) = some ([q4.a, q4.b, q4.c, q4.d].map wv).length := by kernel_rfl
  have Hni := Lib.hid hni
  have HR4 := Lib.hid hR4
  clear hB4 hP4 hni hR4 HTk HV3 hcm2
  generalize hql : [q4.a, q4.b, q4.c, q4.d] = ql at *
  have Hql := Lib.hid hql
  clear hql
  obtain ⟨QB, hQB⟩ : ∃ QB, Hid (ql.map wv = QB) := ⟨_, Lib.hid rfl⟩
  rw [hQB.out] at hr4 Hni
  go_wp2_with (refine wpList_load_mid rfl 52 _ rfl (w.heap.size + 1) 0 rfl QB _ (World.rangeAt_alloc hr4.out _) Tryd.underlying52 rfl Hni.out ?_)
  go_loopw [4, 19] (fun s4 s19 wr => EndedP (w4.alloc (.cells (List.replicate 16 (byt 0)).toArray 5)) w4.heap.size ql s4 s19 wr) (fun _ s19 _ => 4 - (intOf s19).toNat)
  case atStart =>
    refine ⟨0, by omega, rfl, ?_, Only.refl _ _⟩
    exact ⟨rfl, .inr ⟨w4.heap.size, 16, _, rfl, Nat.le_refl _, Box.new _ _ _, by omega, by unfold maxLen; omega, rfl, rfl⟩⟩
  case round =>
    obtain ⟨j, hj, rfl, hO, ho⟩ := hrel
    have HO := Lib.hid hO
    have hqll : ql.length = 4 := by rw [← Hql.out]; rfl
    have hsz5 := ho.size
    rw [World.size_alloc] at hsz5
    obtain ⟨A5, c5, rfl⟩ := owns_slice hO
    by_cases hlt : j < 4
    · obtain ⟨x, hx⟩ : ∃ x, ql[j]? = some x := ⟨_, List.getElem?_eq_getElem (by omega)⟩
      have hx32 : x < 4294967296 := by
        have hm := List.mem_of_getElem? hx
        rw [← Hql.out] at hm
        obtain ⟨k1, k2, k3, k4⟩ := hok
        simp only [List.mem_cons, List.not_mem_nil, or_false] at hm
        rcases hm with rfl | rfl | rfl | rfl <;> assumption
      have hQx : QB[j]? = some (.int .u32 (x : Int)) := by rw [← hQB.out, List.getElem?_map, hx]; rfl
      have hix := run_index_arr (P := Tryd.prog) Tryd.underlying52 Tryd.underlying47 rfl (by kernel_rfl) hlt hQx
      have hlt2 : (j : Int) < 4 := by omega
      have Hst := Lib.hid (outs_step ql j x hx)
      have HLs := Lib.hid (least_at w4.heap.size (.slice A5 (4 * j) c5) (4 * j) (outs ql j) HO.out x 4 (x : Int) 4 rfl rfl (by omega) (by omega) (by omega) (by omega))
      clear hO hQx hx
      go_wp2_with fail
      refine (HLs.out).mono ?_
      rintro e w6 ⟨v6, rfl, hO6, o6⟩
      rw [← Hst.out] at hO6
      have HO6 := Lib.hid hO6
      clear hO6
      go_wp2
      go_roundw
      case rel => exact ⟨j + 1, by omega, by go_num, HO6.out, ho.trans o6⟩
      case measure => simp [intOf]; omega
    · obtain rfl : j = 4 := by omega
      obtain ⟨g5, c6, e5, hg5, hc6⟩ := owns_none hO (by omega)
      injection e5 with e5 _ e6
      subst e5 e6
      have hrg := owns_range hO
      rw [← Hql.out, outs_all, ← hmd.out] at hrg
      have Hrg := Lib.hid hrg
      have hml : (md L).length = 16 := by rw [hmd.out, out_len]
      have hri : (Tryd.prog.info? 24).map (·.size) = some ((md L).map byt).length := by rw [List.length_map, hml]; kernel_rfl
      have hri2 : (Tryd.prog.info? 24).map (·.size) = some ((md L).map byt).toArray.size := by rw [List.size_toArray, List.length_map, hml]; kernel_rfl
      have Hri := Lib.hid hri
      have Hri2 := Lib.hid hri2
      have HM1 := Lib.hid (map_byt_one (md L))
      have hR5 := (HR4.out.alloc (.cells (List.replicate 16 (byt 0)).toArray 5)).only ho (fun e => by unfold From at e; have := HR4.out.lt; omega)
      have Hml : Hid (((md L).map byt).length = 16) := by
        refine Lib.hid ?_
        rw [List.length_map, hml]
      have HR5 := Lib.hid hR5
      clear hrg hri hri2 hO hR5 hml
      have hat : ∀ u, (Instr.arrayAt 24 (.slice (some ⟨g5, 0, none⟩) 16 c5)).run Tryd.prog u = .ok (.pointer (some ⟨g5, 0, none⟩)) u := fun u => by
        simp [Instr.arrayAt, run_underlying Tryd.underlying24]
      obtain ⟨MB, hMB⟩ : ∃ MB, Hid ((md L).map byt = MB) := ⟨_, Lib.hid rfl⟩
      rw [hMB.out] at Hrg Hri Hri2 HM1 Hml
      go_wp2_with first
        | refine wpList_load_mid rfl 24 _ rfl g5 0 rfl MB _ Hrg.out Tryd.underlying24 rfl Hri.out ?_
        | refine wpList_store_arr rfl rfl 24 _ _ rfl w.heap.size 0 MB rfl rfl (HR5.out.there (by rw [Hml.out]; exact Nat.le_refl 16)) Hri.out HM1.out ?_
      have hE := HR5.out.setAll (vs := MB) (by rw [Hml.out]; rfl)
      refine bodyPost_ret (results_cell_row rfl _ _ w.heap.size 24 MB.toArray (0, 0) _ rfl hE Tryd.underlying24 rfl Hri2.out) rfl ⟨by rw [hMB.out], ?_⟩
      have o5 : Only Nix w wr := (o4n.alloc _).from ho o4n.size
      exact o5.setCells (.inr (Nat.le_refl _)) _ _
end Go.Proofs.YtekmebbioalpdaaDoor
