/-
  Sum, a Digest's Sum and Len: walked.
-/
import Derived.Test.YtekmebbioalpdaaDoorDNew
namespace Go.Proofs.YtekmebbioalpdaaDoor
open Go.RowKit

theorem md_len (L : List Nat) : (md L).length = 16 := out_len _
theorem mdi (L : List Nat) : (Tryd.prog.info? 24).map (·.size) = some ((md L).map byt).length := by rw [List.length_map, md_len]; kernel_rfl
/-- a digest that is told is laid into the result's cell -/
theorem dsum_any {w : World} (hL : Laid w) (b : Nat) (L : List Nat) (hS : St w b 58 L) (hlen : L.length < 10000000000) :
    Calls Tryd.prog 13 #[.pointer (some ⟨b, 0, none⟩)] w fun e w' => e = .returned (.agg ((md L).map byt).toArray) ∧ Only Nix w w' := by
  have HS := Lib.hid hS
  have HL := Lib.hid hL
  have Hri := Lib.hid (mdi L)
  have Hml : Hid (((md L).map byt).length = 16) := Lib.hid (by rw [List.length_map, md_len])
  have HM1 := Lib.hid (map_byt_one (md L))
  have HE : Hid (∀ u, Only Nix w u → _) := Lib.hid (fun u (o : Only Nix w u) => ended_any (HL.out.nix o) b 58 L (HS.out.only o (fun e => e)) hlen)
  clear hS hL
  obtain ⟨MB, hMB⟩ : ∃ MB, Hid ((md L).map byt = MB) := ⟨_, Lib.hid rfl⟩
  rw [hMB.out] at Hri Hml HM1 HE
  have Hri2 : Hid ((Tryd.prog.info? 24).map (·.size) = some MB.toArray.size) := Lib.hid (by rw [List.size_toArray]; exact Hri.out)
  rw [hMB.out]
  have hR := Box.new w 24 (List.replicate 16 (Value.int .u8 0)).toArray
  have o1 := (Only.refl Nix w).alloc (.cells (List.replicate 16 (Value.int .u8 0)).toArray 24)
  have HR := Lib.hid hR
  clear hR
  go_enter Tryd.func13, Tryd.ntmps13
  go_wp2_with fail
  refine (HE.out _ o1).mono ?_
  rintro e w2 ⟨rfl, o2⟩
  have HR2 := Lib.hid (HR.out.only o2 (fun e => e))
  go_wp2_with (refine wpList_store_arr rfl rfl 24 _ _ rfl w.heap.size 0 MB rfl rfl (HR2.out.there (by rw [Hml.out]; exact Nat.le_refl 16)) Hri.out HM1.out ?_)
  have hE := HR2.out.setAll (vs := MB) (by rw [Hml.out]; rfl)
  refine bodyPost_ret (results_cell_row rfl _ _ w.heap.size 24 MB.toArray (0, 0) _ rfl hE Tryd.underlying24 rfl Hri2.out) rfl ⟨rfl, ?_⟩
  exact (o1.trans o2).setCells (.inr (Nat.le_refl _)) _ _

set_option maxHeartbeats 1000000 in
theorem sum_any {w : World} (hL : Laid w) (A : Option Addr) (m c : Nat) (bss : List (List Nat)) (hl : Lists w (.slice A m c) bss) (hlen : bss.flatten.length < 10000000000) :
    Calls Tryd.prog 9 #[.slice A m c] w fun e w' => e = .returned (.agg ((md bss.flatten).map byt).toArray) ∧ Only Nix w w' := by
  have HL := Lib.hid hL
  have Hl := Lib.hid hl
  obtain ⟨L, hLL⟩ : ∃ L, Hid (bss.flatten = L) := ⟨_, Lib.hid rfl⟩
  have Hri := Lib.hid (mdi L)
  have Hml : Hid (((md L).map byt).length = 16) := Lib.hid (by rw [List.length_map, md_len])
  have HM1 := Lib.hid (map_byt_one (md L))
  have hl2 : Hid (L.length < 10000000000) := Lib.hid (by rw [← hLL.out]; exact hlen)
  have HD : Hid (∀ b u, Only Nix w u → St u b 58 L → _) := Lib.hid (fun b u (o : Only Nix w u) (h : St u b 58 L) => dsum_any (HL.out.nix o) b L h hl2.out)
  have HA : Hid (∀ b u, Only Nix w u → w.heap.size + 1 ≤ b → St u b 58 [] → _) := Lib.hid (fun b u (o : Only Nix w u) (hb : w.heap.size + 1 ≤ b) (h : St u b 58 []) => add_any (HL.out.nix o) b (by have := HL.out.size; omega) [] h A m c bss (Hl.out.away o (by omega)) (by simp only [List.length_nil]; omega))
  clear hL hl hlen
  rw [hLL.out]
  simp only [List.nil_append] at HA
  rw [hLL.out] at HA
  obtain ⟨MB, hMB⟩ : ∃ MB, Hid ((md L).map byt = MB) := ⟨_, Lib.hid rfl⟩
  rw [hMB.out] at Hri Hml HM1 HD
  have Hri2 : Hid ((Tryd.prog.info? 24).map (·.size) = some MB.toArray.size) := Lib.hid (by rw [List.size_toArray]; exact Hri.out)
  rw [hMB.out]
  have HR := Lib.hid (Box.new w 24 (List.replicate 16 (Value.int .u8 0)).toArray)
  have o1 := (Only.refl Nix w).alloc (.cells (List.replicate 16 (Value.int .u8 0)).toArray 24)
  go_enter Tryd.func9, Tryd.ntmps9
  go_wp2_with fail
  refine (new_any _).mono ?_
  rintro e w2 ⟨g, rfl, hg, hS2, o2⟩
  have hg1 : w.heap.size + 1 ≤ g := by simpa using hg
  have H3 := Lib.hid (HA.out g w2 (o1.trans o2) hg1 hS2)
  clear hS2 hg
  go_wp2_with fail
  refine (H3.out).mono ?_
  rintro e w3 ⟨rfl, hS3, o3⟩
  have o3n : Only Nix w w3 := (o1.trans o2).then o3 (fun i e => .inr (by unfold Just at e; omega))
  have hsz1 := HR.out.lt
  have HR3 := Lib.hid ((HR.out.only o2 (fun e => e)).only o3 (fun e => by unfold Just at e; omega))
  have H4 := Lib.hid (HD.out g w3 o3n hS3)
  clear hS3
  go_wp2_with fail
  refine (H4.out).mono ?_
  rintro e w4 ⟨rfl, o4⟩
  have HR4 := Lib.hid (HR3.out.only o4 (fun e => e))
  go_wp2_with (refine wpList_store_arr rfl rfl 24 _ _ rfl w.heap.size 0 MB rfl rfl (HR4.out.there (by rw [Hml.out]; exact Nat.le_refl 16)) Hri.out HM1.out ?_)
  have hE := HR4.out.setAll (vs := MB) (by rw [Hml.out]; rfl)
  refine bodyPost_ret (results_cell_row rfl _ _ w.heap.size 24 MB.toArray (0, 0) _ rfl hE Tryd.underlying24 rfl Hri2.out) rfl ⟨rfl, ?_⟩
  exact (o3n.trans o4).setCells (.inr (Nat.le_refl _)) _ _

set_option maxHeartbeats 1000000 in
/-- .. of a nil Digest -/
theorem dsum_nil {w : World} (hL : Laid w) :
    Calls Tryd.prog 13 #[.pointer none] w fun e w' => e = .returned (.agg ((md []).map byt).toArray) ∧ Only Nix w w' := by
  have HL := Lib.hid hL
  have Hri := Lib.hid (mdi [])
  have Hml : Hid (((md []).map byt).length = 16) := Lib.hid (by rw [List.length_map, md_len])
  have HM1 := Lib.hid (map_byt_one (md []))
  have HE : Hid (∀ u, Only Nix w u → _) := Lib.hid (fun u (o : Only Nix w u) => sum_any (HL.out.nix o) none 0 0 [] (Lists.nil u) (by decide))
  clear hL
  rw [List.flatten_nil] at HE
  obtain ⟨MB, hMB⟩ : ∃ MB, Hid ((md []).map byt = MB) := ⟨_, Lib.hid rfl⟩
  rw [hMB.out] at Hri Hml HM1 HE
  have Hri2 : Hid ((Tryd.prog.info? 24).map (·.size) = some MB.toArray.size) := Lib.hid (by rw [List.size_toArray]; exact Hri.out)
  rw [hMB.out]
  have HR := Lib.hid (Box.new w 24 (List.replicate 16 (Value.int .u8 0)).toArray)
  have o1 := (Only.refl Nix w).alloc (.cells (List.replicate 16 (Value.int .u8 0)).toArray 24)
  go_enter Tryd.func13, Tryd.ntmps13
  go_wp2_with fail
  refine (HE.out _ o1).mono ?_
  rintro e w2 ⟨rfl, o2⟩
  have HR2 := Lib.hid (HR.out.only o2 (fun e => e))
  go_wp2_with (refine wpList_store_arr rfl rfl 24 _ _ rfl w.heap.size 0 MB rfl rfl (HR2.out.there (by rw [Hml.out]; exact Nat.le_refl 16)) Hri.out HM1.out ?_)
  have hE := HR2.out.setAll (vs := MB) (by rw [Hml.out]; rfl)
  refine bodyPost_ret (results_cell_row rfl _ _ w.heap.size 24 MB.toArray (0, 0) _ rfl hE Tryd.underlying24 rfl Hri2.out) rfl ⟨rfl, ?_⟩
  exact (o1.trans o2).setCells (.inr (Nat.le_refl _)) _ _

set_option maxHeartbeats 1000000 in
theorem dlen_any {w : World} (b : Nat) (L : List Nat) (hS : St w b 58 L) :
    Calls Tryd.prog 14 #[.pointer (some ⟨b, 0, none⟩)] w fun e w' => e = .returned (iv (L.length : Int)) ∧ w = w' := by
  obtain ⟨pt, hB, hP⟩ := hS
  have hc := hB.cell 68
  rw [stc_many _ _ _ hP.len] at hc
  clear hB hP
  generalize L.length = n at *
  go_enter Tryd.func14, Tryd.ntmps14
  go_wp2
  go_ret
  exact ⟨rfl, rfl⟩
set_option maxHeartbeats 1000000 in
theorem dlen_nil (w : World) :
    Calls Tryd.prog 14 #[.pointer none] w fun e w' => e = .returned (iv 0) ∧ w = w' := by
  go_enter Tryd.func14, Tryd.ntmps14
  go_wp2
  go_ret
  exact ⟨rfl, rfl⟩
set_option maxHeartbeats 1000000 in
theorem add_nil (w : World) (v : Value) :
    Calls Tryd.prog 12 #[.pointer none, v] w fun e w' => e = .returned (.tuple #[]) ∧ w = w' := by
  go_enter Tryd.func12, Tryd.ntmps12
  go_wp2
  refine bodyPost_ret (results_none rfl _ _ _) rfl ⟨rfl, rfl⟩
end Go.Proofs.YtekmebbioalpdaaDoor
