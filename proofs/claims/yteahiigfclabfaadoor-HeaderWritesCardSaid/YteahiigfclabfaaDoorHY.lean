/-
  What a header is written as: the bits, the bytes.
-/
import Derived.Test.YteahiigfclabfaaDoorHX
namespace Go.Proofs.YteahiigfclabfaaDoor.H
open Go.RowKit

def sg (v : Bool) : Nat := if v = true then 1 else 0
/-- what is told of a number behind its code -/
def tdX (r : Rw) (n : Int) : Nat := (n.tdiv r.u - r.l).toNat
def tdB (r : Rw) (n : Int) : List Nat := if r.s = 8 then [tdX r n] else if r.s = 16 then [tdX r n / 256, tdX r n % 256] else []
/-- a header's first four bytes -/
def hd4 (h : Hd) : List Nat := [255, 248 + sg h.v, h.bc.toNat * 16 + h.rc.toNat, h.mo.toNat * 16 + h.dc.toNat * 2]
/-- a header's bytes but for the sum -/
def hbB (h : Hd) : List Nat := hd4 h ++ U.cd h.num.toNat ++ tdB (rowOf bT h.bc) h.blk ++ tdB (rowOf rT h.rc) h.rate
/-- what Write answers -/
def wrB (h : Hd) : List Nat := if ckE h = 0 then hbB h ++ [U.sm 8 7 (hbB h)] else []

theorem row_lt {T : List Rw} (c : Int) (h : (rowOf T c).u ≠ 0) : 0 ≤ c ∧ c < 16 := by
  by_cases hc : c < 0 ∨ 16 ≤ c
  · exact absurd (show (rowOf T c).u = 0 by unfold rowOf; rw [if_pos hc]; rfl) h
  · omega
theorem row8 (c : Int) (h : (rowOf dT c).u ≠ 0) : 0 ≤ c ∧ c < 8 := by
  have hc := row_lt c h
  obtain ⟨k, rfl⟩ : ∃ k : Nat, c = k := ⟨c.toNat, by omega⟩
  have h2 : ∀ k, k < 16 → (rowOf dT (k : Nat)).u ≠ 0 → k < 8 := by decide
  have := h2 k (by omega) h
  omega
/-- a header that may be -/
structure HOk (h : Hd) : Prop where
  mo : 0 ≤ h.mo ∧ h.mo ≤ 10
  bu : (rowOf bT h.bc).u ≠ 0
  ru : (rowOf rT h.rc).u ≠ 0
  du : (rowOf dT h.dc).u ≠ 0
  num : mayN h.v h.num
  blk : telP (rowOf bT h.bc) h.blk
  rate : telP (rowOf rT h.rc) h.rate
  dep : telP (rowOf dT h.dc) h.dep
theorem fstE_zero (e : Int) (l : List Int) : fstE (e :: l) = 0 ↔ e = 0 ∧ fstE l = 0 := by
  simp only [fstE]
  split
  · rename_i h; simp [h]
  · rename_i h; simp [h]
theorem un_zero (b : Bool) (e : Int) (he : e ≠ 0) : un b e = 0 ↔ b = true := by
  unfold un
  cases b <;> simp [he]
theorem chE_zero (m : Int) : chE m = 0 ↔ 0 ≤ m ∧ m ≤ 10 := by
  unfold chE
  split
  · constructor
    · intro h; cases h
    · intro h; omega
  · constructor
    · intro; omega
    · intro; rfl
theorem ck_ok (h : Hd) : ckE h = 0 ↔ HOk h := by
  unfold ckE
  simp only [fstE_zero, un_zero _ 13 (by decide), un_zero _ 10 (by decide), un_zero _ 22 (by decide), chE_zero, Bool.and_eq_true, decide_eq_true_eq]
  constructor
  · rintro ⟨h1, ⟨⟨h2, h3⟩, h4⟩, h5, h6, h7, h8, _⟩
    exact ⟨h1, h2, h3, h4, h5, h6, h7, h8⟩
  · rintro ⟨h1, h2, h3, h4, h5, h6, h7, h8⟩
    exact ⟨h1, ⟨⟨h2, h3⟩, h4⟩, h5, h6, h7, h8, rfl⟩
theorem HOk.codes {h : Hd} (k : HOk h) : (0 ≤ h.bc ∧ h.bc < 16) ∧ (0 ≤ h.rc ∧ h.rc < 16) ∧ (0 ≤ h.dc ∧ h.dc < 8) ∧ 0 ≤ h.num ∧ h.num < 68719476736 := by
  refine ⟨row_lt _ k.bu, row_lt _ k.ru, row8 _ k.du, k.num.1, ?_⟩
  have := k.num.2
  split at this <;> omega
/-- the sizes of what is told behind -/
theorem row_sizes {T : List Rw} (hs : ∀ r ∈ T, r.s = 0 ∨ r.s = 8 ∨ r.s = 16) (hT : TOk T) (c : Int) : (rowOf T c).s = 0 ∨ (rowOf T c).s = 8 ∨ (rowOf T c).s = 16 := by
  unfold rowOf
  split
  · exact .inl rfl
  · rename_i hc
    have hl : c.toNat < T.length := by rw [hT.len]; omega
    rw [List.getD_eq_getElem?_getD, List.getElem?_eq_getElem hl]
    exact hs _ (List.getElem_mem hl)
theorem sizes_b : ∀ r ∈ bT, r.s = 0 ∨ r.s = 8 ∨ r.s = 16 := by decide
theorem sizes_r : ∀ r ∈ rT, r.s = 0 ∨ r.s = 8 ∨ r.s = 16 := by decide
theorem sizes_d : ∀ r ∈ dT, r.s = 0 ∨ r.s = 8 ∨ r.s = 16 := by decide
theorem tdX_lt {r : Rw} (hr : RwOk r) {n : Int} (h : telP r n) : tdX r n < 2 ^ r.s := by
  obtain ⟨h1, h2, h3, h4, h5⟩ := hr
  obtain ⟨_, _, k3, k4⟩ := h
  unfold tdX
  generalize 2 ^ r.s = P at *
  omega
theorem tdB_bits {r : Rw} (hs : r.s = 0 ∨ r.s = 8 ∨ r.s = 16) (n : Int) : bitsOf (tdB r n) = tdL r n := by
  unfold tdB tdL
  rcases hs with h | h | h
  · rw [h]; rfl
  · rw [h, if_pos rfl]; simp only [bitsOf_cons, bitsOf_nil, List.append_nil]; rfl
  · rw [h, if_neg (by decide), if_pos rfl]
    simp only [bitsOf_cons, bitsOf_nil, List.append_nil]
    rw [bitsN_mod 8 _ 8 (Nat.le_refl _), show (16 : Nat) = 8 + 8 from rfl, bitsN_add]
    rfl
theorem tdB_lt {r : Rw} (hr : RwOk r) (hs : r.s = 0 ∨ r.s = 8 ∨ r.s = 16) {n : Int} (h : telP r n) : ∀ x ∈ tdB r n, x < 256 := by
  have hx := tdX_lt hr h
  intro x hm
  unfold tdB at hm
  rcases hs with e | e | e
  · rw [e] at hm; simp at hm
  · rw [e] at hm hx; simp at hm; subst hm; simpa using hx
  · rw [e] at hm hx
    simp at hm
    rcases hm with rfl | rfl
    · have : tdX r n < 65536 := by simpa using hx
      omega
    · omega
theorem two_fours (a b : Nat) (hb : b < 16) : bitsN 8 (a * 16 + b) = bitsN 4 a ++ bitsN 4 b := by
  rw [show (8 : Nat) = 4 + 4 from rfl, bitsN_add, ← bitsN_mod 4 (a * 16 + b) 4 (Nat.le_refl _)]
  rw [show (a * 16 + b) / 2 ^ 4 = a from by omega, show (a * 16 + b) % 2 ^ 4 = b from by omega]
theorem low_four (c : Nat) (hc : c < 8) : bitsN 4 (c * 2) = bitsN 3 c ++ bitsN 1 0 := by
  have : ∀ c, c < 8 → bitsN 4 (c * 2) = bitsN 3 c ++ bitsN 1 0 := by decide
  exact this c hc
theorem hd4_bits {h : Hd} (k : HOk h) : bitsOf (hd4 h) = ((((((([] ++ bitsN 15 32764) ++ bitsN 1 (sg h.v)) ++ bitsN 4 h.bc.toNat) ++ bitsN 4 h.rc.toNat) ++ bitsN 4 h.mo.toNat) ++ bitsN 3 h.dc.toNat) ++ bitsN 1 0) := by
  obtain ⟨h1, h2, h3, _⟩ := k.codes
  have h4 := k.mo
  unfold hd4
  simp only [bitsOf_cons, bitsOf_nil, List.append_nil, List.nil_append]
  rw [two_fours _ _ (by omega), two_fours _ _ (by omega), low_four _ (by omega)]
  have e : bitsN 8 255 ++ bitsN 8 (248 + sg h.v) = bitsN 15 32764 ++ bitsN 1 (sg h.v) := by
    cases h.v <;> decide
  simp only [← List.append_assoc]
  rw [e]
/-- the bits that are written -/
def hL9 (h : Hd) : List Nat := (((((((([] ++ bitsN 15 32764) ++ bitsN 1 (sg h.v)) ++ bitsN 4 h.bc.toNat) ++ bitsN 4 h.rc.toNat) ++ bitsN 4 h.mo.toNat) ++ bitsN 3 h.dc.toNat) ++ bitsN 1 0) ++ bitsOf (U.cd h.num.toNat)) ++ tdL (rowOf bT h.bc) h.blk ++ tdL (rowOf rT h.rc) h.rate
theorem hbB_bits {h : Hd} (k : HOk h) : bitsOf (hbB h) = hL9 h := by
  unfold hbB hL9
  rw [bitsOf_append, bitsOf_append, bitsOf_append, hd4_bits k, tdB_bits (row_sizes sizes_b bOk _), tdB_bits (row_sizes sizes_r rOk _)]
theorem hbB_lt {h : Hd} (k : HOk h) : ∀ x ∈ hbB h, x < 256 := by
  obtain ⟨h1, h2, h3, h5⟩ := k.codes
  have h4 := k.mo
  intro x hx
  unfold hbB at hx
  rcases List.mem_append.1 hx with hx | hx
  · rcases List.mem_append.1 hx with hx | hx
    · rcases List.mem_append.1 hx with hx | hx
      · unfold hd4 at hx
        have hs : sg h.v ≤ 1 := by unfold sg; split <;> omega
        simp at hx
        omega
      · exact U.cd_lt _ (by omega) x hx
    · exact tdB_lt (rowOf_ok rows_ok.1 bOk _) (row_sizes sizes_b bOk _) k.blk x hx
  · exact tdB_lt (rowOf_ok rows_ok.2.1 rOk _) (row_sizes sizes_r rOk _) k.rate x hx
theorem hbB_len {h : Hd} : (hbB h).length ≤ 15 ∧ 5 ≤ (hbB h).length := by
  have h1 := U.szOf_bd h.num.toNat
  unfold hbB
  simp only [List.length_append, U.cd_len]
  have h2 : ∀ r n, (tdB r n).length ≤ 2 := by
    intro r n; unfold tdB; split
    · simp
    · split <;> simp
  have h3 := h2 (rowOf bT h.bc) h.blk
  have h4 := h2 (rowOf rT h.rc) h.rate
  simp only [hd4, List.length_cons, List.length_nil]
  omega
theorem hbB_packs {h : Hd} (k : HOk h) {bs : List Nat} (hp : Packs bs (hL9 h)) : bs = hbB h := by
  refine hp.inj ⟨hbB_lt k, ?_, ?_, ?_⟩
  · rw [hbB_bits k, ← hbB_bits k, bitsOf_len]; simp
  · rw [← hbB_bits k, bitsOf_len]; exact Nat.le_refl _
  · rw [← hbB_bits k, bitsOf_len]; omega

/-- bytes just put, appended to a Writer -/
theorem append_wt {W0 u1 u2 : World} {b g : Nat} {l bs : List Nat} (h : Wt W0 b l u1) (hl : l.length ≤ 1000) (ho : Only Nix u1 u2) (hg : u1.heap.size ≤ g) (hB : Box u2 g 5 (bs.map byt).toArray) (h0 : 0 < bs.length) (h1 : bs.length ≤ 100) (hlt : ∀ x ∈ bs, x < 256) (t : TypeId) (_ht : t ≠ 5) (_htw : t ≠ 88) :
    Calls Tryd.prog 28 #[.pointer (some ⟨b, 0, none⟩), .slice (some ⟨u2.heap.size, 0, none⟩) 1 1] (u2.alloc (.cells #[.slice (some ⟨g, 0, none⟩) bs.length bs.length] t)) fun e u' => e = .returned (.tuple #[]) ∧ Wt W0 b (l ++ bitsOf bs) u' := by
  obtain ⟨v, cs, k1, k2, k3, k4⟩ := h
  have hbl := k1.box.lt
  have hO : Only Nix u1 (u2.alloc (.cells #[.slice (some ⟨g, 0, none⟩) bs.length bs.length] t)) := ho.alloc _
  have hbx := Box.new u2 t #[.slice (some ⟨g, 0, none⟩) bs.length bs.length]
  have hB2 := hB.alloc (.cells #[.slice (some ⟨g, 0, none⟩) bs.length bs.length] t)
  have hsz := ho.size
  have hgF : ¬ WF b v g := by
    rintro (e | e)
    · omega
    · have := owns_lt k1.own e; omega
  have hnF : ¬ WF b v u2.heap.size := by
    rintro (e | e)
    · omega
    · have := owns_lt k1.own e; omega
  have k1' := wr_nix k1 hO
  have hLs : Lists (u2.alloc (.cells #[.slice (some ⟨g, 0, none⟩) bs.length bs.length] t)) (WF b v) (.slice (some ⟨u2.heap.size, 0, none⟩) 1 1) [bs] := by
    refine ⟨some ⟨u2.heap.size, 0, none⟩, 1, rfl, fun j hj => ?_⟩
    have hj0 : j = 0 := by simpa using hj
    subst hj0
    refine ⟨u2.heap.size, 0, ⟨g, 0, none⟩, bs.length, rfl, h0, by show bs.length ≤ 1048576; omega, hlt, fun w' hw' => ⟨?_, fun k x hx => ?_⟩⟩
    · have := (hbx.only hw' hnF).cell 0
      simpa using this
    · have h3 := (hB2.only hw' hgF).cell k
      rw [Addr.add_lit, Nat.zero_add, h3]
      simpa using hx
  have hle : ∀ i, i ≤ [bs].length → (l ++ bitsOf ([bs].take i).flatten).length ≤ 140737488355328 := by
    intro i hi
    rw [List.length_append, bitsOf_len]
    have : (([bs].take i).flatten).length ≤ bs.length := by
      match i, hi with
      | 0, _ => simp
      | 1, _ => simp
    omega
  refine (append_any k1' hLs (by simp) hle).mono ?_
  rintro _ u' ⟨rfl, k⟩
  refine ⟨rfl, ?_⟩
  rw [show [bs].flatten = bs from by simp] at k
  exact Wt.to (k2.trans hO) k3 k4 k
end Go.Proofs.YteahiigfclabfaaDoor.H
