/-
  A channel is read in one way alone; how long what is written is.
-/
import Derived.Test.YteklfkpeaadinaaGreatDoorPAS19
namespace Go.Proofs.YteklfkpeaadinaaGreatDoor.S
open Go.RowKit Go.Shelf

theorem RcOk.det {bs : List Nat} {a b o dp : Nat} {P S : Int} {C fs : List Int} {m ro m2 ro2 : Int} {ps ws ys ps2 ws2 ys2 : List Int} {a1 a2 : Nat} (h : RcOk bs a b o dp P S C fs m ro ps ws ys a1) (g : RcOk bs a b o dp P S C fs m2 ro2 ps2 ws2 ys2 a2) :
    m = m2 ∧ ro = ro2 ∧ ps = ps2 ∧ ws = ws2 ∧ ys = ys2 ∧ a1 = a2 := by
  obtain ⟨m', ro', rs, rfl, rfl, hp, rfl, rfl, _, rfl⟩ := h
  obtain ⟨m2', ro2', rs2, rfl, rfl, hp2, rfl, rfl, _, rfl⟩ := g
  obtain ⟨rfl, rfl, rfl, rfl⟩ := hp.det hp2
  exact ⟨rfl, rfl, rfl, rfl, rfl, rfl⟩
theorem RtOk.det {bs : List Nat} {a b dp k o : Nat} {fs : List Int} {lp ls lp2 ls2 m ro m2 ro2 : Int} {cs cs2 ps ws ys ps2 ws2 ys2 : List Int} {a1 a2 : Nat} (h : RtOk bs a b dp k o fs lp ls cs m ro ps ws ys a1) (g : RtOk bs a b dp k o fs lp2 ls2 cs2 m2 ro2 ps2 ws2 ys2 a2) :
    lp = lp2 ∧ ls = ls2 ∧ cs = cs2 ∧ m = m2 ∧ ro = ro2 ∧ ps = ps2 ∧ ws = ws2 ∧ ys = ys2 ∧ a1 = a2 := by
  rcases h with ⟨hk, rfl, rfl, rfl, rfl, rfl, rfl, rfl, rfl, rfl⟩ | ⟨hk, rfl, rfl, rfl, rfl, rfl, rfl, rfl, rfl, rfl⟩ | ⟨hk, rfl, rfl, rfl, hc⟩ | ⟨hk, P, a3, rfl, hl, hc⟩ <;>
    rcases g with ⟨gk, rfl, rfl, rfl, rfl, rfl, rfl, rfl, rfl, rfl⟩ | ⟨gk, rfl, rfl, rfl, rfl, rfl, rfl, rfl, rfl, rfl⟩ | ⟨gk, rfl, rfl, rfl, gc⟩ | ⟨gk, P2, a4, rfl, gl, gc⟩ <;>
    first
    | omega
    | exact ⟨rfl, rfl, rfl, rfl, rfl, rfl, rfl, rfl, rfl⟩
    | (obtain ⟨rfl, rfl, rfl, rfl, rfl, rfl⟩ := hc.det gc; exact ⟨rfl, rfl, rfl, rfl, rfl, rfl, rfl, rfl, rfl⟩)
    | (obtain ⟨rfl, rfl, rfl, rfl⟩ := hl.det gl
       obtain ⟨rfl, rfl, rfl, rfl, rfl, rfl⟩ := hc.det gc
       exact ⟨rfl, rfl, rfl, rfl, rfl, rfl, rfl, rfl, rfl⟩)
theorem ChOk.det {bs : List Nat} {a b d k o wd k2 o2 wd2 : Nat} {lp ls lp2 ls2 m ro m2 ro2 : Int} {cs cs2 ps ws xs ps2 ws2 xs2 : List Int} {a1 a2 : Nat} (h : ChOk bs a b d k o wd lp ls cs m ro ps ws xs a1) (g : ChOk bs a b d k2 o2 wd2 lp2 ls2 cs2 m2 ro2 ps2 ws2 xs2 a2) :
    k = k2 ∧ o = o2 ∧ wd = wd2 ∧ lp = lp2 ∧ ls = ls2 ∧ cs = cs2 ∧ m = m2 ∧ ro = ro2 ∧ ps = ps2 ∧ ws = ws2 ∧ xs = xs2 ∧ a1 = a2 := by
  obtain ⟨z1, ys, h1, h2, h3, h4, rfl⟩ := h
  obtain ⟨z2, ys2, g1, g2, g3, g4, rfl⟩ := g
  obtain ⟨rfl, rfl⟩ := cd_det h1 g1
  obtain ⟨rfl, rfl⟩ := ws_det h2 g2
  obtain ⟨rfl, rfl, rfl, rfl, rfl, rfl, rfl, rfl, rfl⟩ := h4.det g4
  exact ⟨rfl, rfl, rfl, rfl, rfl, rfl, rfl, rfl, rfl, rfl, rfl, rfl⟩
theorem wasB_len (wd : Nat) : (wasB wd).length ≤ wd + 2 := by
  unfold wasB
  split
  · rw [bitsN_len]; omega
  · rw [List.length_append, List.length_append, bitsN_len, List.length_replicate, List.length_singleton]
    omega
theorem chB_len {k o wd lp ls m ro : Int} {cs ps bs : List Int} {d : Int} {xs : List Int} (h0 : splE k o wd lp ls m ro cs ps bs d xs = 0) (hn : xs.length ≤ 1000) : (chB k o wd lp ls m ro cs ps bs d xs).length ≤ 10000000000000 := by
  obtain ⟨hb, hp, _, _, _⟩ := splE_zero h0
  obtain ⟨hk0, hk4, hw0, hwd, hl, hm, hown⟩ := ckPl_zero hp
  have hb' : 4 ≤ d ∧ d ≤ 33 := by
    unfold ckBlk at hb
    split at hb
    · cases hb
    · omega
  have h1 := wasB_len wd.toNat
  have h2 : (((xs.map (dvd wd.toNat)).take (plM k o xs.length).toNat).flatMap (numB (d - wd).toNat)).length ≤ 33 * 1000 := by
    rw [numsB_len]
    refine Nat.mul_le_mul (by omega) ?_
    rw [List.length_take, List.length_map]
    omega
  have h3 : (if k = 3 then linB lp.toNat ls cs else []).length ≤ 1000 := by
    split
    · rename_i hk3
      obtain ⟨_, _, _, _, _, _, _, _, hok, _⟩ := splE_fine h0 (by omega)
      subst hk3
      have hok2 : K.okL lp ls cs := hok
      obtain ⟨⟨h4, _, h5, _⟩, _⟩ := hok2
      unfold linB
      rw [List.length_append, List.length_append, bitsN_len, numB_len, numsB_len]
      have := Nat.mul_le_mul (show lp.toNat ≤ 15 by omega) h4
      omega
    · simp
  have h4 : (if 2 ≤ k then blockB (xs.length / 2 ^ ro.toNat) o.toNat (2 ^ ro.toNat) m.toNat ro.toNat ps bs (splV k o wd lp ls cs xs) else []).length ≤ 6 + 4294967400 * 1000 := by
    split
    · rename_i hk2
      obtain ⟨m', ro', O, rfl, rfl, rfl, hF, hv, _⟩ := splE_fine h0 hk2
      simp only [Int.toNat_natCast]
      have h5 := block_bound hF
      rw [hF.eq, hv] at h5
      have := Nat.mul_le_mul_left 4294967400 hn
      omega
    · simp
  unfold chB headB
  rw [List.length_append, List.length_append, List.length_append, List.length_append, List.length_append, bitsN_len, bitsN_len]
  omega
end Go.Proofs.YteklfkpeaadinaaGreatDoor.S
