/-
  slices.Clone of bytes, and NewReader.
-/
import Derived.Test.YtliemhadgbjjiaaNext
namespace Go.Proofs.Ytliemhadgbjjiaa
open Go.RowKit

theorem Try.info_byte : (Try.prog.info? 5).map (fun i => (i.zero, i.size, i.bytes)) = some (some (.int .u8 0), 1, 1) := by kernel_rfl

/-- The slice v0 holds these bytes. -/
structure Src (w : World) (v0 : Value) (bs : List Nat) : Prop where
  form : (v0 = .slice none 0 0 ∧ bs = []) ∨ ∃ ad c, v0 = .slice (some ad) bs.length c ∧ ∀ j u, (bs.map byt)[j]? = some u → w.cell? (ad.add j) = some u
  small : bs.length ≤ 140737488355328

theorem Src.of_owns {w : World} {base : Nat} {v : Value} {bs : List Nat} (h : w.ownsRow base 5 1 v bs.length (bs.map byt)) (hs : bs.length ≤ 140737488355328) : Src w v bs := by
  refine ⟨?_, hs⟩
  rcases h.2 with ⟨rfl, hn⟩ | ⟨g, cap, cur, rfl, hb, hg, rest⟩
  · exact .inl ⟨rfl, List.eq_nil_of_length_eq_zero hn⟩
  · exact .inr ⟨_, cap, rfl, h.cells (g := g) rfl⟩

set_option maxHeartbeats 400000 in
theorem clone_any {w : World} {v0 : Value} {bs : List Nat} (h : Src w v0 bs) :
    Calls Try.prog 44 #[v0] w fun e w' => ∃ v, e = .returned v ∧ w'.ownsRow w.heap.size 5 1 v bs.length (bs.map byt) ∧ Only Nix w w' := by
  have hsm := h.small
  obtain ⟨i0, hi, hz0, hz1, hz2⟩ := info_parts Try.info_byte
  rcases h.form with ⟨rfl, rfl⟩ | ⟨ad, c, rfl, hcell⟩
  · have hq := fun (u : World) => Lib.run_eql_slice_nil (P := Try.prog) u 41 5 none 0 0 0 0 Try.underlying41
    go_enter Try.func44, Try.ntmps44
    go_wp2
    go_ret
    exact ⟨_, rfl, World.ownsRow_nil _ _ _ _, Only.refl _ _⟩
  · have hq := fun (u : World) => Lib.run_eql_slice_nil (P := Try.prog) u 41 5 (some ad) bs.length c 0 0 Try.underlying41
    go_enter Try.func44, Try.ntmps44
    go_wp2_with (at_builtin; refine wpList_append_own _ rfl (.tmp 5) (.tmp 6) 41 rfl w.heap.size 5 i0 (.int .u8 0) 1 1 Try.underlying41 hi hz0 hz1 hz2 rfl (by decide) (.slice (some ⟨w.heap.size, 0, none⟩) 0 0) 0 [] rfl ?hown ad bs.length c (bs.map byt) rfl ?hl ?hnews ?h1 ?h63 ?hby ?hbase ?rest)
    case hown => exact World.ownsRow_lit w #[] 0 (Nat.le_refl _) (by unfold maxLen; omega) rfl
    case hl => simp
    case hnews =>
      intro j u hu
      exact (World.cell?_alloc_lt _ _ _ (World.block_lt_of_cell? w _ (hcell j u hu))).trans (hcell j u hu)
    case h1 => intro u hu; obtain ⟨x, _, rfl⟩ := List.mem_map.1 hu; rfl
    case h63 => unfold maxLen; omega
    case hby => omega
    case hbase => simp
    case rest =>
      intro v' w' hown hgr _
      go_wp2
      go_ret
      refine ⟨_, rfl, ?_, ?_⟩
      · simpa using hown
      · exact ((Only.refl Nix w).alloc _).grown hgr (fun k e => .inr (by simp [Value.ownBlock] at e; omega))

/-- all blocks of a Reader are new: from B on -/
def RdNew (B r : Nat) (v : Value) : Prop := B ≤ r ∧ ∀ g, v.ownBlock = some g → B ≤ g

set_option maxHeartbeats 400000 in
theorem newReader_any {w : World} {v0 : Value} {bs : List Nat} (h : Src w v0 bs) (hlt : ∀ x ∈ bs, x < 256) :
    Calls Try.prog 22 #[v0] w fun e w' => ∃ r v, e = .returned (.pointer (some ⟨r, 0, none⟩)) ∧ Rd w' r v bs 0 ∧ RdNew w.heap.size r v ∧ Only Nix w w' := by
  have Hc := Lib.hid (clone_any h)
  have hsm := h.small
  clear h
  go_enter Try.func22, Try.ntmps22
  go_wp2_with fail
  refine (Hc.out).mono ?_
  rintro e w1 ⟨v, rfl, hown, ho⟩
  have hsz := ho.size
  obtain ⟨A, c, rfl⟩ := owns_slice hown
  have Hown := Lib.hid hown
  clear hown
  go_wp2
  go_ret
  have hown := Hown.out
  refine ⟨w1.heap.size, .slice A bs.length c, rfl, ⟨Box.new _ _ _, ?_, hlt, by omega, hsm⟩, ⟨hsz, fun g hg => (hown.lt g hg).1⟩, ho.alloc _⟩
  have h2 := hown.alloc (.cells #[Value.int IntKind.i64 0, .slice A bs.length c] 88)
  refine ⟨h2.1, ?_⟩
  rcases h2.2 with h3 | ⟨g, cap, cur, a1, a2, a3⟩
  · exact .inl h3
  · exact .inr ⟨g, cap, cur, a1, Nat.zero_le _, a3⟩
end Go.Proofs.Ytliemhadgbjjiaa
