/-
  A Meter: Sum16.
-/
import Derived.Test.YtmnnjbamphoghaaDoorOnce
namespace Go.Proofs.YtmnnjbamphoghaaDoor
open Go.RowKit

set_option maxHeartbeats 400000 in
theorem msum_nil (w : World) (v0 : Value) : Calls Tryd.prog 18 #[.pointer none, v0] w fun e w' => e = .returned (iv 0) ∧ Only Nix w w' := by
  go_enter Tryd.func18, Tryd.ntmps18
  go_wp2
  go_ret
  exact ⟨rfl, (Only.refl _ _).alloc _⟩

set_option maxRecDepth 100000 in
set_option maxHeartbeats 1000000 in
theorem msum_any {w w0 : World} {b : Nat} {cs : Array Value} {dn : Int} {y t : Nat} {v0 : Value} {bss : List (List Nat)} (hL : Laid w) (hb : w0.heap.size ≤ b) (hbl : b < w.heap.size) (h5 : 5 < b) (hd : dn = 0 ∨ dn = 1) (h : Mt w b cs dn y t)
    (hl : Lists w0 v0 bss) (ho : Only Nix w0 w) (h20 : bss.length ≤ 20) (h200 : ∀ bs ∈ bss, bs.length ≤ 200) (hy : y ≤ 100000) (ht : t ≤ 100000) :
    Calls Tryd.prog 18 #[.pointer (some ⟨b, 0, none⟩), v0] w fun e w' => e = .returned (iv (sm 16 32773 bss.flatten : Nat)) ∧ ∃ cs', Mt w' b cs' 1 (y + total bss) (t + 1) ∧ Only (Just b) w w' := by
  have hmf : ∀ (fn : Fn) (first cap : Array Value) (w : World), (Instr.makeFunc fn first cap).run Tryd.prog w = .ok (.func fn first cap) w := fun _ _ _ _ => rfl
  obtain ⟨A, c, hv⟩ := hl.slice
  subst hv
  have o1 := (Only.refl (Just b) w).alloc (.cells #[.pointer (some ⟨b, 0, none⟩)] 36)
  have k1 : (w.alloc (.cells #[.pointer (some ⟨b, 0, none⟩)] 36)).cell? ⟨w.heap.size, 0, none⟩ = some (.pointer (some ⟨b, 0, none⟩)) := by simp
  have m1 : Mt (w.alloc (.cells #[.pointer (some ⟨b, 0, none⟩)] 36)) b cs dn y t := h.only ((Only.refl Nix w).alloc _) (fun e => e)
  have hplb : ¬ w.heap.size = b := by omega
  have D := Lib.hid (do_any (w := (w.alloc (.cells #[.pointer (some ⟨b, 0, none⟩)] 36)).drew) ((hL.only o1 h5).nix (Only.refl Nix _).drew) h5 hd (m1.only (Only.refl Nix _).drew (fun e => e)))
  clear h m1
  have s0 := hL.s0
  have s1 := hL.s1
  go_enter Tryd.func18, Tryd.ntmps18
  go_wp2_with fail
  go_region_held3 (fun u => u.cell? ⟨w.heap.size, 0, none⟩ = some (.pointer (some ⟨b, 0, none⟩))) (first | assumption | exact k1 | exact cell_only od k1 hplb) (first
    | (go_at_call 26; (with_reducible refine (D.out).mono ?_); rintro e w1 ⟨rfl, cs1, m1, od0⟩; have od : Only (Just b) (w.alloc (.cells #[.pointer (some ⟨b, 0, none⟩)] 36)) w1 := ⟨od0.os, od0.tape, od0.output, od0.size, od0.block⟩))
  have o2 := o1.trans od
  have k2 := cell_only od k1 hplb
  have n2 : Only Nix w0 w1 := ho.then o2 (fun i e => .inr (by have e' : i = b := e; omega))
  have M1 := Lib.hid m1
  clear m1 od0
  go_wp2_with fail
  refine (count_any M1.out (hl.nix n2) h20 h200 hy ht).mono ?_
  rintro e w2 ⟨rfl, cs2, m2, oc⟩
  have o3 := o2.trans oc
  have k3 := cell_only oc k2 hplb
  have n3 : Only Nix w0 w2 := ho.then o3 (fun i e => .inr (by have e' : i = b := e; omega))
  have hL3 := hL.only o3 h5
  have t3 : MTab w2 ⟨w.heap.size, 0, none⟩ b 3 := ⟨k3, fun k hk => (m2.box.cell (3 + k)).trans (m2.tab rfl k hk)⟩
  have M2 := Lib.hid m2
  have S := Lib.hid (sumM t3 (hl.nix n3))
  have g0 := hL3.s0
  have g1 := hL3.s1
  clear m2 t3 s0 s1
  go_wp2_with fail
  refine (S.out).mono ?_
  rintro e w3 ⟨rfl, o4⟩
  have m3 := M2.out.only o4 (fun e => e)
  have Fin := Lib.hid (And.intro m3 (o3.trans (Only.nix (F := Just b) o4)))
  clear m3
  go_wp2
  go_ret
  exact ⟨rfl, cs2, Fin.out⟩
end Go.Proofs.YtmnnjbamphoghaaDoor
