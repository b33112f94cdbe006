/-
  A channel is read in one way alone; how long what is written is.
-/
import Derived.Test.YteklfkpeaadinaaDoorPDSH
import Derived.Test.YteklfkpeaadinaaDoorPDS6
import Derived.Deep.RegionLaw
import Derived.Laws.CopyOwn
import Derived.Test.YteklfkpeaadinaaDoorPDS16
import Derived.Test.YteklfkpeaadinaaDoorPDS8
import Derived.Test.YteklfkpeaadinaaDoorPDG10
import Derived.Deep.RegionHeld3
import Derived.Test.YteklfkpeaadinaaDoorPDS10
namespace Go.Proofs.YteklfkpeaadinaaDoor.S
open Go.RowKit Go.Shelf

theorem wasB_len (wd : Nat) : (wasB wd).length ≤ wd + 2 := by
  unfold wasB
  split
  · rw [bitsN_len]; omega
  · rw [List.length_append, List.length_append, bitsN_len, List.length_replicate, List.length_singleton]
    omega
theorem chB_len {k o wd lp ls m ro : Int} {cs ps bs : List Int} {d : Int} {xs : List Int} (h0 : splE k o wd lp ls m ro cs ps bs d xs = 0) (hn : xs.length ≤ 1000) : (chB k o wd lp ls m ro cs ps bs d xs).length ≤ 10000000000000 := by
  obtain ⟨hb, hp, _, _, _⟩ := splE_zero h0
  obtain ⟨hk0, hk4, hw0, hwd, hl, hm, hown⟩ := ckPl_zero hp
  have hb' : 4 ≤ d ∧ d ≤ 33 := by
    unfold ckBlk at hb
    split at hb
    · cases hb
    · omega
  have h1 := wasB_len wd.toNat
  have h2 : (((xs.map (dvd wd.toNat)).take (plM k o xs.length).toNat).flatMap (numB (d - wd).toNat)).length ≤ 33 * 1000 := by
    rw [numsB_len]
    refine Nat.mul_le_mul (by omega) ?_
    rw [List.length_take, List.length_map]
    omega
  have h3 : (if k = 3 then linB lp.toNat ls cs else []).length ≤ 1000 := by
    split
    · rename_i hk3
      obtain ⟨_, _, _, _, _, _, _, _, hok, _⟩ := splE_fine h0 (by omega)
      subst hk3
      have hok2 : K.okL lp ls cs := hok
      obtain ⟨⟨h4, _, h5, _⟩, _⟩ := hok2
      unfold linB
      rw [List.length_append, List.length_append, bitsN_len, numB_len, numsB_len]
      have := Nat.mul_le_mul (show lp.toNat ≤ 15 by omega) h4
      omega
    · simp
  have h4 : (if 2 ≤ k then blockB (xs.length / 2 ^ ro.toNat) o.toNat (2 ^ ro.toNat) m.toNat ro.toNat ps bs (splV k o wd lp ls cs xs) else []).length ≤ 6 + 4294967400 * 1000 := by
    split
    · rename_i hk2
      obtain ⟨m', ro', O, rfl, rfl, rfl, hF, hv, _⟩ := splE_fine h0 hk2
      simp only [Int.toNat_natCast]
      have h5 := block_bound hF
      rw [hF.eq, hv] at h5
      have := Nat.mul_le_mul_left 4294967400 hn
      omega
    · simp
  unfold chB headB
  rw [List.length_append, List.length_append, List.length_append, List.length_append, List.length_append, bitsN_len, bitsN_len]
  omega
end Go.Proofs.YteklfkpeaadinaaDoor.S
