/-
  Arguments of types []byte and []int, opened; a Reader beside a Writer.
-/
import Derived.Test.YtpcddacfhmkkbaaOps
namespace Go.Proofs.Ytpcddacfhmkkbaa
open Go.ChangeShapes Go.WideShapes Go.ChangeAt Go.RowKit Go.Joins

/-- a slice of bytes that came in, of whatever length -/
def BytesIn (w : World) (v0 : Value) (bs : List Nat) : Prop :=
  (v0 = .slice none 0 0 ∧ bs = []) ∨ ∃ ad c, v0 = .slice (some ad) bs.length c ∧ ∀ j u, (bs.map byt)[j]? = some u → w.cell? (ad.add j) = some u
theorem BytesIn.slice {w : World} {v0 : Value} {bs : List Nat} (h : BytesIn w v0 bs) : ∃ A c, v0 = .slice A bs.length c := by
  rcases h with ⟨rfl, rfl⟩ | ⟨ad, c, hv, _⟩
  · exact ⟨none, 0, rfl⟩
  · exact ⟨_, _, hv⟩
/-- a slice of ints that came in -/
def IntsIn (w : World) (v0 : Value) (zs : List Int) : Prop :=
  (v0 = .slice none 0 0 ∧ zs = []) ∨ ∃ ad c, v0 = .slice (some ad) zs.length c ∧ ∀ j, (hj : j < zs.length) → w.cell? (ad.add j) = some (iv zs[j])
theorem IntsIn.slice {w : World} {v0 : Value} {zs : List Int} (h : IntsIn w v0 zs) : ∃ A c, v0 = .slice A zs.length c := by
  rcases h with ⟨rfl, rfl⟩ | ⟨ad, c, hv, _⟩
  · exact ⟨none, 0, rfl⟩
  · exact ⟨_, _, hv⟩
theorem IntsIn.at_ {w : World} {A : Option Addr} {n c : Nat} {zs : List Int} (h : IntsIn w (.slice A n c) zs) {j : Nat} (hj : j < zs.length) : ∃ ad, A = some ad ∧ w.cell? (ad.add j) = some (iv zs[j]) := by
  rcases h with ⟨_, rfl⟩ | ⟨ad, c', hv, hc⟩
  · simp at hj
  · injection hv with h1 _ _
    exact ⟨ad, h1, hc j hj⟩
theorem cell_keep {w w' : World} (ho : Only Nix w w') {a : Addr} {u : Value} (h : w.cell? a = some u) : w'.cell? a = some u := by
  rw [World.cell?_of_block (w := w) (ho.block a.block (World.block_lt_of_cell? w a h) (fun e => e))]
  exact h
theorem IntsIn.keep {w w' : World} {v0 : Value} {zs : List Int} (h : IntsIn w v0 zs) (ho : Only Nix w w') : IntsIn w' v0 zs := by
  rcases h with h | ⟨ad, c', hv, hc⟩
  · exact .inl h
  · exact .inr ⟨ad, c', hv, fun j hj => cell_keep ho (hc j hj)⟩

section
variable {H : Type} {enc : TypeId × Value → H} {w : World}
theorem open_bytes {A : Option Addr} {len cap : Nat} {d : DataW H} {p : List MemPlace} (h : DataW.Trod enc Try.prog w 0 (fun _ => true) true 22 (.slice A len cap) d p) :
    ∃ bs : List Nat, BytesIn w (.slice A len cap) bs ∧ bs.length = len ∧ len ≤ maxLen ∧ ∀ x ∈ bs, x < 256 := by
  obtain ⟨fuel, hf⟩ := h
  rcases open_ints Try.underlying22 Try.underlying5 (by kernel_rfl) hf with ⟨hcs, _⟩ | ⟨x, l, c, zs, hcs, _, hl, hm, hz, _, hcell, hwz⟩
  · simp [Value.cells] at hcs
    obtain ⟨rfl, rfl, rfl⟩ := hcs
    exact ⟨[], .inl ⟨rfl, rfl⟩, rfl, by unfold maxLen; omega, by simp⟩
  · simp [Value.cells] at hcs
    obtain ⟨rfl, rfl, rfl⟩ := hcs
    have hz' : zs.length = cap := by simpa using hz
    have hb : ∀ z ∈ zs, 0 ≤ z ∧ z ≤ 255 := fun z hzm => by
      have := hwz z hzm
      simpa [Lit.wf, IntKind.min, IntKind.max, IntKind.signed, IntKind.bits] using this
    refine ⟨(zs.take len).map Int.toNat, .inr ⟨x, cap, by rw [List.length_map, List.length_take, Nat.min_eq_left (by omega)], fun j u hu => ?_⟩, by rw [List.length_map, List.length_take, Nat.min_eq_left (by omega)], by omega, fun y hy => ?_⟩
    · have hj : j < len := by
        have := (List.getElem?_eq_some_iff.1 hu).1
        simp at this
        omega
      have h1 := hcell j (by omega)
      rw [h1]
      have hjz : j < zs.length := by omega
      have h2 := hb zs[j] (List.getElem_mem hjz)
      simp only [List.map_map, List.getElem?_map, List.getElem?_take_of_lt hj, List.getElem?_eq_getElem hjz, Option.map_some] at hu
      rw [← hu]
      simp only [Function.comp, byt, List.getD_eq_getElem?_getD, List.getElem?_eq_getElem hjz, Option.getD_some]
      rw [Int.toNat_of_nonneg h2.1]
    · obtain ⟨z, hzm, rfl⟩ := List.mem_map.1 hy
      have := hb z (List.mem_of_mem_take hzm)
      omega
theorem open_list {A : Option Addr} {len cap : Nat} {d : DataW H} {p : List MemPlace} (h : DataW.Trod enc Try.prog w 0 (fun _ => true) true 28 (.slice A len cap) d p) :
    ∃ zs : List Int, IntsIn w (.slice A len cap) zs ∧ zs.length = len ∧ len ≤ maxLen ∧ ∀ z ∈ zs, Fits z := by
  obtain ⟨fuel, hf⟩ := h
  rcases open_ints Try.underlying28 Try.underlying_int (by kernel_rfl) hf with ⟨hcs, _⟩ | ⟨x, l, c, zs, hcs, _, hl, hm, hz, _, hcell, hwz⟩
  · simp [Value.cells] at hcs
    obtain ⟨rfl, rfl, rfl⟩ := hcs
    exact ⟨[], .inl ⟨rfl, rfl⟩, rfl, by unfold maxLen; omega, by simp⟩
  · simp [Value.cells] at hcs
    obtain ⟨rfl, rfl, rfl⟩ := hcs
    have hz' : zs.length = cap := by simpa using hz
    have hlt : (zs.take len).length = len := by rw [List.length_take, Nat.min_eq_left (by omega)]
    refine ⟨zs.take len, .inr ⟨x, cap, by rw [hlt], fun j hj => ?_⟩, hlt, by omega, fun z hzm => fits_of_wf (hwz z (List.mem_of_mem_take hzm))⟩
    have hjz : j < zs.length := by omega
    rw [hcell j (by omega)]
    simp [List.getD_eq_getElem?_getD, List.getElem?_eq_getElem hjz]
end

/-- a Reader's bytes lie apart from a Writer's -/
structure Apart (w0 w : World) (r b : Nat) (rv v : Value) : Prop where
  r0 : w0.heap.size ≤ r
  b0 : w0.heap.size ≤ b
  v0 : ∀ g, v.ownBlock = some g → w0.heap.size ≤ g
  ne : ∀ g, rv.ownBlock = some g → v.ownBlock ≠ some g
  lt : ∀ g, rv.ownBlock = some g → g < w.heap.size

/-- behind a call of the Reader -/
theorem beside_read {w0 w w' : World} {r b a : Nat} {rv v : Value} {bs bw l : List Nat} (hR : Rd w r rv bs a) (hW : Wr w b v bw l) (hA : Apart w0 w r b rv v) (h0 : Only Nix w0 w) (ho : Only (Just r) w w') :
    Wr w' b v bw l ∧ Apart w0 w' r b rv v ∧ Only Nix w0 w' := by
  refine ⟨hW.keep ho (hW.box.type_ne hR.box (by decide)) (fun g hg e => owns_box hW.own hR.box (by decide) (by rw [hg]; exact congrArg some e)), ⟨hA.r0, hA.b0, hA.v0, hA.ne, fun g hg => Nat.lt_of_lt_of_le (hA.lt g hg) ho.size⟩, h0.then ho (fun k e => .inr (by have := hA.r0; have h : k = r := e; omega))⟩
/-- behind a call of the Writer -/
theorem beside_write {w0 w w' : World} {r b a : Nat} {rv v v' : Value} {bs bw l : List Nat} (hR : Rd w r rv bs a) (hW : Wr w b v bw l) (hA : Apart w0 w r b rv v) (h0 : Only Nix w0 w) (ho : Only (WF b v) w w') (hm : Moves w.heap.size v v') :
    Rd w' r rv bs a ∧ Apart w0 w' r b rv v' ∧ Only Nix w0 w' := by
  have hsz := h0.size
  refine ⟨hR.keep ho ?_ ?_, ⟨hA.r0, hA.b0, ?_, ?_, fun g hg => Nat.lt_of_lt_of_le (hA.lt g hg) ho.size⟩, h0.then ho ?_⟩
  · rintro (e | e)
    · exact hR.box.type_ne hW.box (by decide) e
    · exact owns_box hW.own hR.box (by decide) e
  · rintro g hg (e | e)
    · exact owns_box hR.own hW.box (by decide) (by rw [hg, e])
    · exact hA.ne g hg e
  · intro g hg
    rcases hm g hg with e | e
    · exact hA.v0 g e
    · omega
  · intro g hg e
    rcases hm g e with e1 | e1
    · exact hA.ne g hg e1
    · have := hA.lt g hg; omega
  · rintro k (e | e)
    · exact .inr (by have := hA.b0; omega)
    · exact .inr (hA.v0 k e)
end Go.Proofs.Ytpcddacfhmkkbaa
