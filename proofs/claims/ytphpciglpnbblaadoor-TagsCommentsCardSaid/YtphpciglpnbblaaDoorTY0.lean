/-
  Few comments are short.
-/
import Derived.Test.YtphpciglpnbblaaDoorTW
namespace Go.Proofs.YtphpciglpnbblaaDoor
open Go.RowKit

theorem few_sz {V : ByteArray} {l : List ByteArray} (h : fewC V l) : 8 + V.size + szL l ≤ 80000 := by
  have key : ∀ l : List ByteArray, (∀ s ∈ l, s.size ≤ 200) → szL l ≤ 204 * l.length := fun l => by
    induction l with
    | nil => intro _; simp [szL]
    | cons s l ih =>
      intro h
      have h1 := h s (List.mem_cons_self ..)
      have h2 := ih (fun t ht => h t (List.mem_cons_of_mem _ ht))
      have h3 : szL (s :: l) = 4 + s.size + szL l := by simp [szL]
      rw [h3, List.length_cons]
      omega
  have h1 := key l h.1
  have h2 := h.2.1
  have h3 := h.2.2
  omega
end Go.Proofs.YtphpciglpnbblaaDoor
