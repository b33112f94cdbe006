/-
  WritePoints: the bytes of points.
-/
import Derived.Test.YtighdjbeddcckaaDoorVG
import Derived.Laws.MakeOwn
namespace Go.Proofs.YtighdjbeddcckaaDoor
open Go.RowKit Go.Shelf

theorem makes (u : World) (base N : Nat) (hb : base ≤ u.heap.size) (hN : N ≤ 1000000) :
    (Go.Instr.makeSlice 29 (.int .i64 0) (.int .i64 (N : Int))).run Tryd.prog u = .ok (.slice (some ⟨u.heap.size, 0, none⟩) 0 N) (u.alloc (.cells (madeCells #[.int .u8 0] N) 5)) ∧
    Owns (u.alloc (.cells (madeCells #[.int .u8 0] N) 5)) base 5 byt (.slice (some ⟨u.heap.size, 0, none⟩) 0 N) [] := by
  obtain ⟨i0, hi, hz0, hz1, hz2⟩ := info_parts Tryd.info_byte
  obtain ⟨w', h1, h2, _⟩ := run_make_own u base 29 5 i0 (.int .u8 0) 1 Tryd.underlying29 hi hz0 hz1 .i64 .i64 N (by rw [hz2]; omega) (by unfold maxLen; omega) hb
  have h3 := run_make u 29 5 i0 (.int .u8 0) Tryd.underlying29 hi hz0 .i64 .i64 0 N (by omega) (by omega) (by rw [hz2]; omega) (by omega)
  rw [hz1] at h3
  rw [h1] at h3
  rw [Int.toNat_natCast, Nat.mul_one] at h3
  injection h3 with _ e
  subst e
  exact ⟨h1, h2⟩
/-- a number of 64 bits, without its sign -/
def u64n (x : Int) : Nat := (x % 18446744073709551616).toNat
theorem u64n_wrap (x : Int) : IntKind.u64.wrap x = ((u64n x : Nat) : Int) := by rw [IntKind.wrap_u64]; unfold u64n; omega
theorem u64n_lt (x : Int) : u64n x < 18446744073709551616 := by unfold u64n; omega
/-- a point's bytes -/
def ptB (p : Pt) : List Nat := be 8 (u64n p.1) ++ (be 8 (u64n p.2.1) ++ be 2 (u64n p.2.2))
def pts (l : List Pt) : List Nat := (l.map ptB).flatten
theorem ptB_len (p : Pt) : (ptB p).length = 18 := by simp [ptB, be_len]
theorem pts_len : ∀ l : List Pt, (pts l).length = 18 * l.length
  | [] => rfl
  | p :: l => by
    have := pts_len l
    unfold pts at *
    rw [List.map_cons, List.flatten_cons, List.length_append, ptB_len, this, List.length_cons]
    omega
theorem pts_take {l : List Pt} {j : Nat} (h : j < l.length) : pts (l.take (j + 1)) = pts (l.take j) ++ ptB l[j] := by
  unfold pts
  rw [List.take_succ_eq_append_getElem h, List.map_append, List.flatten_append]
  simp
theorem pts_lt (l : List Pt) : ∀ x ∈ pts l, x < 256 := fun x hx => by
  unfold pts at hx
  obtain ⟨b, hb, hx⟩ := List.mem_flatten.1 hx
  obtain ⟨p, _, rfl⟩ := List.mem_map.1 hb
  unfold ptB at hx
  simp only [List.mem_append] at hx
  rcases hx with h | h | h
  all_goals exact be_lt _ _ _ h
/-- what WritePoints answers -/
def WpR (w : World) (l : List Pt) (e : Ending) (w' : World) : Prop := (∃ v, e = .returned (.tuple #[v, iv (orE l)]) ∧ Owns w' w.heap.size 5 byt v (if orE l = 0 then pts l else [])) ∧ Only Nix w w'
def WpL (W : World) (B : Nat) (l : List Pt) (s5 s22 : Value) (wr : World) : Prop := ∃ j : Nat, j ≤ l.length ∧ s22 = iv j ∧ Owns wr B 5 byt s5 (pts (l.take j)) ∧ Only Nix W wr
theorem orE_cases (l : List Pt) : orE l = 0 ∨ orE l = 10 ∨ orE l = 18 := by
  unfold orE
  split
  · split <;> simp
  · simp
end Go.Proofs.YtighdjbeddcckaaDoor
