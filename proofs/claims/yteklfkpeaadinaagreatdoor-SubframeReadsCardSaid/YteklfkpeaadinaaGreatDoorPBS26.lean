/-
  A channel is read in one way alone; how long what is written is.
-/
import Derived.Test.YteklfkpeaadinaaGreatDoorPBS19
namespace Go.Proofs.YteklfkpeaadinaaGreatDoor.S
open Go.RowKit Go.Shelf

theorem wasB_len (wd : Nat) : (wasB wd).length ≤ wd + 2 := by
  unfold wasB
  split
  · rw [bitsN_len]; omega
  · rw [List.length_append, List.length_append, bitsN_len, List.length_replicate, List.length_singleton]
    omega
end Go.Proofs.YteklfkpeaadinaaGreatDoor.S
