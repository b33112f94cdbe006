/-
  Read.
-/
import Derived.Test.YteklfkpeaadinaaGreatDoorPCG08
import Derived.Deep.AppendLies
import Derived.ProofKit
import Derived.OpenShut
import Derived.Lib.SmallJoins
import Derived.Deep.Slices
import Derived.SizedLaws
namespace Go.Proofs.YteklfkpeaadinaaGreatDoor
open Go.RowKit

end Go.Proofs.YteklfkpeaadinaaGreatDoor
namespace Go.Proofs.YteklfkpeaadinaaGreatDoor
open Go.RowKit

end Go.Proofs.YteklfkpeaadinaaGreatDoor
namespace Go.Proofs.YteklfkpeaadinaaGreatDoor
open Go.RowKit

theorem Src.at_ {w : World} {v : Value} {bs : List Nat} (h : Src w v bs) {k : Nat} (hk : k < bs.length) : ∃ ad c, v = .slice (some ad) bs.length c ∧ w.cell? (ad.add k) = some (byt bs[k]) := by
  rcases h.form with ⟨_, rfl⟩ | ⟨ad, c, hv, hc⟩
  · simp at hk
  · exact ⟨ad, c, hv, hc k _ (by simp [hk])⟩
theorem Src.drewN {w : World} {v : Value} {bs : List Nat} (h : Src w v bs) (n : Nat) : Src (w.drewN n) v bs := ⟨h.form, h.small⟩
theorem Src.slice {w : World} {v : Value} {bs : List Nat} (h : Src w v bs) : ∃ A c, v = .slice A bs.length c := by
  rcases h.form with ⟨rfl, rfl⟩ | ⟨ad, c, hv, hc⟩
  · exact ⟨none, 0, rfl⟩
  · exact ⟨_, _, hv⟩
theorem Src.only {F : Nat → Prop} {w w' : World} {v : Value} {bs : List Nat} (h : Src w v bs) (ho : Only F w w') (hF : ∀ i, F i → ∀ ad n c, v = .slice (some ad) n c → ad.block ≠ i) : Src w' v bs := by
  refine ⟨?_, h.small⟩
  rcases h.form with hn | ⟨ad, c, hv, hc⟩
  · exact .inl hn
  · refine .inr ⟨ad, c, hv, fun j u hu => ?_⟩
    have h1 := hc j u hu
    have hb : (ad.add j).block = ad.block := by unfold Addr.add; split <;> rfl
    have hl := World.block_lt_of_cell? w _ h1
    rw [World.cell?_of_block (w := w) (ho.block (ad.add j).block hl (fun e => hF _ e ad _ c hv hb.symm))]
    exact h1
theorem Src.nix {w w' : World} {v : Value} {bs : List Nat} (h : Src w v bs) (ho : Only Nix w w') : Src w' v bs := h.only ho (fun _ e => e.elim)
def SameRel (w : World) (n : Nat) (s5 : Value) (wr : World) : Prop := ∃ k m : Nat, k ≤ n ∧ s5 = .int .i64 (k : Int) ∧ wr = w.drewN m
set_option maxHeartbeats 400000 in
theorem same_yes {w : World} {v1 v2 : Value} {bs : List Nat} (h1 : Src w v1 bs) (h2 : Src w v2 bs) :
    Calls Tryz.prog 33 #[v1, v2] w fun e w' => e = .returned (.bool true) ∧ ∃ m, w' = w.drewN m := by
  have hsm := h1.small
  obtain ⟨A1, c1, hv1⟩ := h1.slice
  obtain ⟨A2, c2, hv2⟩ := h2.slice
  subst hv1
  subst hv2
  go_enter Tryz.func33, Tryz.ntmps33
  go_wp2
  go_loopw [5] (fun s5 wr => SameRel w bs.length s5 wr) (fun s5 _ => bs.length - (intOf s5).toNat)
  case atStart => exact ⟨0, 0, Nat.zero_le _, rfl, rfl⟩
  case round =>
    obtain ⟨k, m, hk, rfl, hwr⟩ := hrel
    have g1 := h1.drewN m
    have g2 := h2.drewN m
    rw [← hwr] at g1 g2
    have Hw := Lib.hid hwr
    clear hwr
    by_cases hlt : k < bs.length
    · obtain ⟨ad1, d1, e1, hx1⟩ := g1.at_ hlt
      obtain ⟨ad2, d2, e2, hx2⟩ := g2.at_ hlt
      injection e1 with e1 _ e1'
      injection e2 with e2 _ e2'
      subst e1 e2 e1' e2'
      unfold byt at hx1 hx2
      have hlt2 : (k : Int) < (bs.length : Int) := by omega
      generalize bs[k] = y at *
      go_wp2_with fail
      go_quiet (fail)
      go_wp2
      go_roundw
      case rel => exact ⟨k + 1, m + nq, by omega, by go_num, by rw [Hw.out, World.drewN_drewN]⟩
      case measure => simp [intOf]; omega
    · go_wp2
      go_ret
      exact ⟨rfl, m, Hw.out⟩
set_option maxHeartbeats 400000 in
theorem ints_yes {w : World} {v1 v2 : Value} {xs : List Int} (h1 : ISrc w v1 xs) (h2 : ISrc w v2 xs) :
    Calls Tryz.prog 16 #[v1, v2] w fun e w' => e = .returned (.bool true) ∧ ∃ m, w' = w.drewN m := by
  have hsm := h1.small
  obtain ⟨A1, c1, hv1⟩ := h1.slice
  obtain ⟨A2, c2, hv2⟩ := h2.slice
  subst hv1
  subst hv2
  go_enter Tryz.func16, Tryz.ntmps16
  go_wp2
  go_loopw [5] (fun s5 wr => SameRel w xs.length s5 wr) (fun s5 _ => xs.length - (intOf s5).toNat)
  case atStart => exact ⟨0, 0, Nat.zero_le _, rfl, rfl⟩
  case round =>
    obtain ⟨k, m, hk, rfl, hwr⟩ := hrel
    have g1 := h1.nix ((Only.refl Nix w).drewN m)
    have g2 := h2.nix ((Only.refl Nix w).drewN m)
    rw [← hwr] at g1 g2
    have Hw := Lib.hid hwr
    clear hwr
    by_cases hlt : k < xs.length
    · obtain ⟨ad1, e1, hx1⟩ := g1.at_ hlt
      obtain ⟨ad2, e2, hx2⟩ := g2.at_ hlt
      subst e1 e2
      have hlt2 : (k : Int) < (xs.length : Int) := by omega
      generalize xs[k] = y at *
      go_wp2_with fail
      go_quiet (fail)
      go_wp2
      go_roundw
      case rel => exact ⟨k + 1, m + nq, by omega, by go_num, by rw [Hw.out, World.drewN_drewN]⟩
      case measure => simp [intOf]; omega
    · go_wp2
      go_ret
      exact ⟨rfl, m, Hw.out⟩
set_option maxHeartbeats 1000000 in
theorem same_plan {w : World} (m o : Int) (A B A' B' : Option Addr) (n n' k k' c d c' d' : Nat) (ps bs : List Int) (h1 : ISrc w (.slice A n c) ps) (h2 : ISrc w (.slice B k d) bs) (h3 : ISrc w (.slice A' n' c') ps) (h4 : ISrc w (.slice B' k' d') bs) :
    Calls Tryz.prog 45 #[planV m o (.slice A n c) (.slice B k d), planV m o (.slice A' n' c') (.slice B' k' d')] w fun e w' => e = .returned (.bool true) ∧ Only Nix w w' := by
  have a0 := ((Only.refl Nix w).alloc (.cells #[iv m, iv o, .slice A n c, .slice B k d] 26)).alloc (.cells #[iv m, iv o, .slice A' n' c', .slice B' k' d'] 26)
  have B0 := (Box.new w 26 #[iv m, iv o, .slice A n c, .slice B k d]).alloc (.cells #[iv m, iv o, .slice A' n' c', .slice B' k' d'] 26)
  have B1 := Box.new (w.alloc (.cells #[iv m, iv o, .slice A n c, .slice B k d] 26)) 26 #[iv m, iv o, .slice A' n' c', .slice B' k' d']
  rw [World.size_alloc] at B1
  obtain ⟨Wa, hWa⟩ : ∃ Wa, (w.alloc (.cells #[iv m, iv o, .slice A n c, .slice B k d] 26)).alloc (.cells #[iv m, iv o, .slice A' n' c', .slice B' k' d'] 26) = Wa := ⟨_, rfl⟩
  rw [hWa] at a0 B0 B1
  have HI1 := Lib.hid (ints_yes (h1.nix a0) (h3.nix a0))
  have HI2 : ∀ q, Hid (Calls Tryz.prog 16 #[.slice B k d, .slice B' k' d'] (Wa.drewN q) fun e w' => e = .returned (.bool true) ∧ ∃ m, w' = (Wa.drewN q).drewN m) := fun q => Lib.hid (ints_yes ((h2.nix a0).nix ((Only.refl Nix _).drewN q)) ((h4.nix a0).nix ((Only.refl Nix _).drewN q)))
  have d0 := B0.cell 0
  have d1 := B0.cell 1
  have d2 := B0.cell 2
  have d3 := B0.cell 3
  have e0 := B1.cell 0
  have e1 := B1.cell 1
  have e2 := B1.cell 2
  have e3 := B1.cell 3
  simp only [List.getElem?_toArray, List.getElem?_cons_zero, List.getElem?_cons_succ] at d0 d1 d2 d3 e0 e1 e2 e3
  have HA := Lib.hid a0
  clear a0 B0 B1 h1 h2 h3 h4
  go_enter Tryz.func45, Tryz.ntmps45
  go_wp2_with fail
  refine (HI1.out).mono ?_
  rintro e w1 ⟨rfl, q, rfl⟩
  have HI := HI2 q
  clear HI2 HI1
  go_wp2_with fail
  refine (HI.out).mono ?_
  rintro e w1 ⟨rfl, q2, rfl⟩
  go_wp2
  go_ret
  exact ⟨rfl, by first | exact (HA.out.drewN q).drewN q2 | exact HA.out.drewN (q + q2)⟩
end Go.Proofs.YteklfkpeaadinaaGreatDoor
namespace Go.Proofs.YteklfkpeaadinaaGreatDoor
open Go.RowKit Go.Shelf
attribute [local go_sem] Oper.semAt_some
theorem isrc_lit (w : World) (xs : List Int) (hn : xs.length ≤ 100) (hf : ∀ x ∈ xs, -9223372036854775808 ≤ x ∧ x ≤ 9223372036854775807) : ISrc (w.alloc (.cells (xs.map iv).toArray 3)) (.slice (some ⟨w.heap.size, 0, none⟩) xs.length xs.length) xs :=
  ISrc.of_box (Box.new w 3 (xs.map iv).toArray) rfl (Nat.le_refl _) (by omega) hf
end Go.Proofs.YteklfkpeaadinaaGreatDoor
namespace Go.Proofs.YteklfkpeaadinaaGreatDoor
open Go.RowKit

end Go.Proofs.YteklfkpeaadinaaGreatDoor
namespace Go.Proofs.YteklfkpeaadinaaGreatDoor
open Go.RowKit

theorem flat_len (S s m : Nat) (ps bs l : List Int) : ∀ ks : List Nat, (∀ k ∈ ks, isP m (ps.getD k 0) (bs.getD k 0)) → (ks.flatMap fun k => partB m (ps.getD k 0) (bs.getD k 0) (pt S s l k)).length = szL S s m ps bs (l.map fd) ks
  | [], _ => by simp [szL]
  | k :: ks, h => by
    have ih := flat_len S s m ps bs l ks (fun j hj => h j (List.mem_cons_of_mem _ hj))
    have e : pt S s (l.map fd) k = (pt S s l k).map fd := by unfold pt; rw [List.map_take, List.map_drop]
    unfold szL at ih ⊢
    rw [List.flatMap_cons, List.length_append, ih, List.map_cons, List.sum_cons, partB_len m _ _ (h k (List.mem_cons_self ..)), e]
theorem Fine.isP {m o s P S : Nat} {ps bs l : List Int} (hF : Fine m o s P S ps bs l) (k : Nat) (hk : k < P) : isP m (ps.getD k 0) (bs.getD k 0) := by
  have := hF.all k (by rw [hF.np]; exact hk) (by rw [hF.nb]; exact hk)
  rw [List.getD_eq_getElem?_getD, List.getElem?_eq_getElem (by rw [hF.np]; exact hk), List.getD_eq_getElem?_getD, List.getElem?_eq_getElem (by rw [hF.nb]; exact hk)]
  exact this
theorem blockB_len {m o s P S : Nat} {ps bs l : List Int} (hF : Fine m o s P S ps bs l) : (blockB S s P m o ps bs l).length = sizeN m o ps bs s l := by
  have hpp : 0 < 2 ^ o := Nat.two_pow_pos o
  have hS : (l.length + s) / 2 ^ o = S := by rw [← hF.eq, ← hF.pw]; exact Nat.mul_div_cancel_left _ hpp
  unfold sizeN blockB
  rw [if_pos hF.sizeE]
  simp only [Int.toNat_natCast]
  rw [hS, hF.pw, List.length_append, List.length_append, bitsN_len, bitsN_len, flat_len S s m ps bs l _ (fun k hk => hF.isP k (List.mem_range.1 hk))]
theorem block_bound {m o s P S : Nat} {ps bs l : List Int} (hF : Fine m o s P S ps bs l) : (blockB S s P m o ps bs l).length ≤ 6 + 4294967400 * (P * S) := by
  have hone : ∀ k, k < P → (partB m (ps.getD k 0) (bs.getD k 0) (pt S s l k)).length ≤ 4294967400 * S := fun k hkk => by
    have hw := frm_width S s k
    have hl1 := (frm_step S s k hF.lt).1
    have hl2 := pt_len S s P l k hF.lt hkk hF.eq
    rw [partB_len m _ _ (hF.isP k hkk)]
    have h2 := szP_bound m (ps.getD k 0) (bs.getD k 0) ((pt S s l k).map fd) hF.m1 (hF.isP k hkk) (by rw [List.length_map, hl2]; omega) (fun y hy => by
      obtain ⟨z, hz, rfl⟩ := List.mem_map.1 hy
      exact fd_lt (hF.res z (List.mem_of_mem_drop (List.mem_of_mem_take hz))))
    rw [List.length_map, hl2] at h2
    have := Nat.mul_le_mul_left 4294967400 hw
    omega
  have hsum : ∀ ks : List Nat, (∀ k ∈ ks, k < P) → (ks.flatMap fun k => partB m (ps.getD k 0) (bs.getD k 0) (pt S s l k)).length ≤ 4294967400 * (ks.length * S) := by
    intro ks
    induction ks with
    | nil => intro _; simp
    | cons k ks ih =>
      intro hk
      have h1 := ih (fun j hj => hk j (List.mem_cons_of_mem _ hj))
      have h2 := hone k (hk k (List.mem_cons_self ..))
      rw [List.flatMap_cons, List.length_append, List.length_cons]
      have e : (ks.length + 1) * S = ks.length * S + S := Nat.succ_mul _ _
      omega
  have h3 := hsum (List.range P) (fun k hk => List.mem_range.1 hk)
  rw [List.length_range] at h3
  unfold blockB
  rw [List.length_append, List.length_append, bitsN_len, bitsN_len]
  omega
end Go.Proofs.YteklfkpeaadinaaGreatDoor
namespace Go.Proofs.YteklfkpeaadinaaGreatDoor
open Go.ChangeShapes Go.WideShapes Go.ChangeAt Go.RowKit Go.Joins

end Go.Proofs.YteklfkpeaadinaaGreatDoor
