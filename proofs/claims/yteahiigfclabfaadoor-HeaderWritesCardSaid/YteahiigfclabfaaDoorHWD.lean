/-
  The document's bytes of a header.
-/
import Derived.Test.YteahiigfclabfaaDoorHWC
import Derived.Test.YteahiigfclabfaaDoorHU
namespace Go.Proofs.YteahiigfclabfaaDoor.H
open Go.RowKit

theorem blk_bits {cb : Nat} {blk : Int} (h : telP (rowOf bT (cb : Nat)) blk) :
    (cb = 6 ∧ ∃ B : Nat, blk - 1 = B ∧ B < 2 ^ 8 ∧ tdL (rowOf bT (cb : Nat)) blk = bitsN 8 B) ∨ (cb = 7 ∧ ∃ B : Nat, blk - 1 = B ∧ B < 2 ^ 16 ∧ tdL (rowOf bT (cb : Nat)) blk = bitsN 16 B) ∨ (cb ≠ 6 ∧ cb ≠ 7 ∧ tdL (rowOf bT (cb : Nat)) blk = []) := by
  have hl := row_lt _ h.1
  by_cases h6 : cb = 6
  · subst h6
    have h2 := (telP_unit (l := 1) (m := 256) (s := 8) blk).1 h
    refine .inl ⟨rfl, (blk - 1).toNat, by omega, by omega, ?_⟩
    show bitsN 8 (blk.tdiv ((1 : Nat) : Int) - ((1 : Nat) : Int)).toNat = _
    rw [show ((1 : Nat) : Int) = 1 from rfl, Int.tdiv_one]
  · by_cases h7 : cb = 7
    · subst h7
      have h2 := (telP_unit (l := 1) (m := 65535) (s := 16) blk).1 h
      refine .inr (.inl ⟨rfl, (blk - 1).toNat, by omega, by omega, ?_⟩)
      show bitsN 16 (blk.tdiv ((1 : Nat) : Int) - ((1 : Nat) : Int)).toNat = _
      rw [show ((1 : Nat) : Int) = 1 from rfl, Int.tdiv_one]
    · refine .inr (.inr ⟨h6, h7, ?_⟩)
      have h2 : ∀ k, k < 16 → k ≠ 6 → k ≠ 7 → (rowOf bT (k : Nat)).s = 0 := by decide
      unfold tdL
      rw [h2 cb (by omega) h6 h7]
      rfl
theorem rate_bits {cr : Nat} {rate : Int} (h : telP (rowOf rT (cr : Nat)) rate) :
    (cr = 12 ∧ (0 ≤ rate ∧ rate ≤ 255000) ∧ ∃ Q : Nat, rate.tdiv 1000 = Q ∧ Q < 2 ^ 8 ∧ tdL (rowOf rT (cr : Nat)) rate = bitsN 8 Q) ∨ (12 < cr ∧ (0 ≤ rate ∧ rate ≤ 655350) ∧ ∃ Un Q : Nat, rU (cr : Nat) = Un ∧ 0 < Un ∧ Un ≤ 1000 ∧ rate.tdiv Un = Q ∧ Q < 2 ^ 16 ∧ tdL (rowOf rT (cr : Nat)) rate = bitsN 16 Q) ∨ (cr < 12 ∧ tdL (rowOf rT (cr : Nat)) rate = []) := by
  have hl := row_lt _ h.1
  by_cases h12 : cr < 12
  · refine .inr (.inr ⟨h12, ?_⟩)
    have h2 : ∀ k, k < 12 → (rowOf rT (k : Nat)).s = 0 := by decide
    unfold tdL
    rw [h2 cr h12]
    rfl
  · obtain rfl | rfl | rfl | rfl : cr = 12 ∨ cr = 13 ∨ cr = 14 ∨ cr = 15 := by omega
    · have h2 := (telP_many (u := 1000) (m := 255) (s := 8) (by decide) rate).1 h
      have h3 : 0 ≤ rate.tdiv 1000 := h.2.2.1
      have h4 : rate.tdiv 1000 ≤ 255 := h.2.2.2
      refine .inl ⟨rfl, ⟨h2.1, by omega⟩, (rate.tdiv 1000).toNat, by omega, by omega, ?_⟩
      show bitsN 8 (rate.tdiv 1000 - 0).toNat = _
      rw [Int.sub_zero]
    · have h2 := (telP_many (u := 1) (m := 65535) (s := 16) (by decide) rate).1 h
      have h3 : 0 ≤ rate.tdiv 1 := h.2.2.1
      have h4 : rate.tdiv 1 ≤ 65535 := h.2.2.2
      refine .inr (.inl ⟨by decide, ⟨h2.1, by omega⟩, 1, (rate.tdiv 1).toNat, rfl, by decide, by decide, ?_, by omega, ?_⟩)
      · show rate.tdiv 1 = _; omega
      · show bitsN 16 (rate.tdiv 1 - 0).toNat = _
        rw [Int.sub_zero]
    · have h2 := (telP_many (u := 10) (m := 65535) (s := 16) (by decide) rate).1 h
      have h3 : 0 ≤ rate.tdiv 10 := h.2.2.1
      have h4 : rate.tdiv 10 ≤ 65535 := h.2.2.2
      refine .inr (.inl ⟨by decide, ⟨h2.1, by omega⟩, 10, (rate.tdiv 10).toNat, rfl, by decide, by decide, ?_, by omega, ?_⟩)
      · show rate.tdiv 10 = _; omega
      · show bitsN 16 (rate.tdiv 10 - 0).toNat = _
        rw [Int.sub_zero]
    · exact absurd rfl h.1

/-- what Put answers, once it has -/
def PutP (B : Nat) (W : World) (l : List Nat) (x : Value) (u : World) : Prop := W.heap.size < u.heap.size ∧ ∃ v, x = .tuple #[v, iv 0] ∧ U.Bitrow u B v l ∧ Only (U.Top B) W u
def RowP (B : Nat) (W : World) (l : List Nat) (x : Value) (u : World) : Prop := W.heap.size < u.heap.size ∧ U.Bitrow u B x l ∧ Only (U.Top B) W u
def FrP (W u u' : World) : Prop := W.heap.size < u.heap.size → Only Nix u u'
structure OldP (W : World) (c : Nat) (L : Nat → Bool) (u : World) : Prop where
  old : L c = false → Only Nix W u ∧ u.heap.size = W.heap.size
theorem PutP.keep {B : Nat} {W u u' : World} {l : List Nat} {x : Value} (h : PutP B W l x u) (hf : FrP W u u') : PutP B W l x u' := by
  obtain ⟨h1, v, e, h2, h3⟩ := h
  have ho := hf h1
  exact ⟨Nat.lt_of_lt_of_le h1 ho.size, v, e, U.row_keep h2 ho, h3.trans (U.Only.top ho)⟩
theorem RowP.keep {B : Nat} {W u u' : World} {l : List Nat} {x : Value} (h : RowP B W l x u) (hf : FrP W u u') : RowP B W l x u' := by
  obtain ⟨h1, h2, h3⟩ := h
  have ho := hf h1
  exact ⟨Nat.lt_of_lt_of_le h1 ho.size, U.row_keep h2 ho, h3.trans (U.Only.top ho)⟩
theorem FrP.refl (W u : World) : FrP W u u := fun _ => Only.refl _ _
theorem OldP.same {W u : World} {c i : Nat} {L : Nat → Bool} (h : OldP W c L u) (hi : c ≠ i) : OldP W c (andOne L i) u := ⟨fun e => h.old (by rw [andOne_ne hi] at e; exact e)⟩
theorem OldP.fin {W u : World} {c : Nat} {L : Nat → Bool} : OldP W c (andOne L c) u := ⟨fun e => by rw [andOne_self] at e; cases e⟩
theorem OldP.begin {W : World} {c : Nat} : OldP W c (fun _ => false) W.drew := ⟨fun _ => ⟨(Only.refl _ _).drew, rfl⟩⟩
theorem lenA {l : List Nat} {k : Nat} (m x : Nat) (h : l.length ≤ k) : (l ++ bitsN m x).length ≤ k + m := by rw [List.length_append, bitsN_len]; omega

set_option maxRecDepth 100000 in
set_option maxHeartbeats 16000000 in
theorem rbytes_any {h : Hd} (k : HOk h) (w : World) : Calls Tryd.prog 14 #[hv h] w fun e w' => ∃ A c, e = .returned (.slice A (wrB h).length c) ∧ U.Src w' (.slice A (wrB h).length c) (wrB h) ∧ Only Nix w w' := by
  obtain ⟨n1, n2, n3, n4, n5⟩ := k.codes
  have n6 := k.mo
  have kb := k.blk
  have kr := k.rate
  have hlt := hbB_lt k
  have HW : Hid (wrB h = hbB h ++ [U.sm 8 7 (hbB h)]) := Lib.hid (by unfold wrB; rw [if_pos ((ck_ok _).2 k)])
  have HWl : Hid (∀ x ∈ wrB h, x < 256) := Lib.hid (by
    intro x hx
    rw [HW.out] at hx
    rcases List.mem_append.1 hx with hx | hx
    · exact hlt x hx
    · simp at hx
      subst hx
      exact U.sm_lt (n := 8) (r := 7) (by decide) (Nat.le_refl _) (hbB h) hlt)
  have HPk : Hid (Packs (hbB h) (hL9 h)) := Lib.hid ⟨hlt, by rw [hbB_bits k, ← hbB_bits k, bitsOf_len]; simp, by rw [← hbB_bits k, bitsOf_len]; exact Nat.le_refl _, by rw [← hbB_bits k, bitsOf_len]; omega⟩
  have hbl : (hbB h).length ≤ 15 := (@hbB_len h).1
  have hL9l : (hL9 h).length ≤ 120 := by rw [← hbB_bits k, bitsOf_len]; omega
  have hS : U.sm 8 7 (hbB h) < 256 := U.sm_lt (n := 8) (r := 7) (by decide) (Nat.le_refl _) (hbB h) hlt
  have HSum : Hid (∀ u v, U.Src u v (hbB h) → Calls Tryd.prog 42 #[v] u fun e w' => e = .returned (iv (U.sm 8 7 (hbB h) : Nat)) ∧ Only Nix u w') := Lib.hid (fun u v hu => U.refSum_8 hu (by omega))
  have hwl : (wrB h).length = (hbB h).length + 1 := by rw [HW.out]; simp
  have Hlt := Lib.hid hlt
  obtain ⟨V, bc, rc, mo, dc, num, blk, rate, dep⟩ := h
  simp only at n1 n2 n3 n4 n5 n6 kb kr
  obtain ⟨cb, rfl⟩ : ∃ x : Nat, bc = x := ⟨bc.toNat, by omega⟩
  obtain ⟨cr, rfl⟩ : ∃ x : Nat, rc = x := ⟨rc.toNat, by omega⟩
  obtain ⟨cm, rfl⟩ : ∃ x : Nat, mo = x := ⟨mo.toNat, by omega⟩
  obtain ⟨cD, rfl⟩ : ∃ x : Nat, dc = x := ⟨dc.toNat, by omega⟩
  obtain ⟨nn, rfl⟩ : ∃ x : Nat, num = x := ⟨num.toNat, by omega⟩
  have HL : Hid (hL9 ⟨V, (cb : Nat), (cr : Nat), (cm : Nat), (cD : Nat), (nn : Nat), blk, rate, dep⟩ = ((((((([] ++ bitsN 16 (65528 + sg V)) ++ bitsN 4 cb) ++ bitsN 4 cr) ++ bitsN 4 cm) ++ bitsN 3 cD) ++ [0]) ++ bitsOf (U.cd nn)) ++ tdL (rowOf bT (cb : Nat)) blk ++ tdL (rowOf rT (cr : Nat)) rate) := Lib.hid (by
    unfold hL9
    simp only [List.nil_append, Int.toNat_natCast]
    rw [show bitsN 16 (65528 + sg V) = bitsN 15 32764 ++ bitsN 1 (sg V) from by cases V <;> decide]
    rfl)
  have HKb := blk_bits kb
  have HKr := rate_bits kr
  generalize tdL (rowOf bT (cb : Nat)) blk = TB at *
  generalize tdL (rowOf rT (cr : Nat)) rate = TR at *
  generalize hL9 ⟨V, (cb : Nat), (cr : Nat), (cm : Nat), (cD : Nat), (nn : Nat), blk, rate, dep⟩ = L9 at *
  generalize wrB ⟨V, (cb : Nat), (cr : Nat), (cm : Nat), (cD : Nat), (nn : Nat), blk, rate, dep⟩ = WB at *
  have Hlt := Lib.hid hlt
  clear hlt k kb kr
  generalize hbB ⟨V, (cb : Nat), (cr : Nat), (cm : Nat), (cD : Nat), (nn : Nat), blk, rate, dep⟩ = BB at *
  generalize U.sm 8 7 BB = S at *
  have hB := Box.new w 26 (hc ⟨V, (cb : Nat), (cr : Nat), (cm : Nat), (cD : Nat), (nn : Nat), blk, rate, dep⟩)
  have hO := (Only.refl Nix w).alloc (.cells (hc ⟨V, (cb : Nat), (cr : Nat), (cm : Nat), (cD : Nat), (nn : Nat), blk, rate, dep⟩) 26)
  have hsz : (w.alloc (.cells (hc ⟨V, (cb : Nat), (cr : Nat), (cm : Nat), (cD : Nat), (nn : Nat), blk, rate, dep⟩) 26)).heap.size = w.heap.size + 1 := by simp
  generalize hW0 : w.alloc (.cells (hc ⟨V, (cb : Nat), (cr : Nat), (cm : Nat), (cD : Nat), (nn : Nat), blk, rate, dep⟩) 26) = W0 at *
  have HQ : Hid (∀ x, Only (U.Top (w.heap.size + 1)) W0 x → x.cell? ⟨w.heap.size, 1, none⟩ = some (iv (cb : Nat)) ∧ x.cell? ⟨w.heap.size, 2, none⟩ = some (iv (cr : Nat)) ∧ x.cell? ⟨w.heap.size, 3, none⟩ = some (iv (cm : Nat)) ∧ x.cell? ⟨w.heap.size, 4, none⟩ = some (iv (cD : Nat)) ∧ x.cell? ⟨w.heap.size, 5, none⟩ = some (iv (nn : Nat)) ∧ x.cell? ⟨w.heap.size, 6, none⟩ = some (iv blk) ∧ x.cell? ⟨w.heap.size, 7, none⟩ = some (iv rate)) := Lib.hid (fun x hx => by
    have b := hB.only hx (fun e => by have e2 : w.heap.size + 1 ≤ w.heap.size := e; omega)
    exact ⟨b.cell 1, b.cell 2, b.cell 3, b.cell 4, b.cell 5, b.cell 6, b.cell 7⟩)
  have q0 : W0.cell? ⟨w.heap.size, 0, none⟩ = some (.bool V) := hB.cell 0
  have HEnd : Hid (∀ x, Only (U.Top (w.heap.size + 1)) W0 x → Only Nix w x) := Lib.hid (fun x hx => hO.then hx (fun i e => .inr (by have e2 : w.heap.size + 1 ≤ i := e; omega)))
  have HS0 : Hid (W0.heap.size = w.heap.size + 1) := Lib.hid hsz
  have HPut : Hid (∀ (u : World) (v : Value) (l : List Nat) (m Un : Nat) (x : Int), U.Bitrow u (w.heap.size + 1) v l → Only (U.Top (w.heap.size + 1)) W0 u → l.length ≤ 1000 → 1 ≤ m → m ≤ 48 → Un < 2 ^ m → x = (Un : Int) → Calls Tryd.prog 38 #[v, iv m, iv x, .bool false] u fun e w' => ∃ v', e = .returned (.tuple #[v', iv 0]) ∧ U.Bitrow w' (w.heap.size + 1) v' (l ++ bitsN m Un) ∧ Only (U.Top (w.heap.size + 1)) u w' ∧ u.heap.size < w'.heap.size) := Lib.hid (fun u v l m Un x hr ho hl h1 h2 h3 hx => by
    subst hx
    exact U.putRef1_any hr (by have := ho.size; omega) hl m Un h1 h2 h3)
  clear hB hO hsz
  go_enter Tryd.func14, Tryd.ntmps14
  simp only [hv, hc] at *
  cases V
  · have hsg : sg false = 0 := rfl
    rw [hsg] at HL
    clear hsg
    have O0 : Hid (Only (U.Top (w.heap.size + 1)) W0 W0) := Lib.hid (Only.refl _ _)
    have hz0 : ([] : List Nat).length ≤ 0 := Nat.le_refl _
    have P1 := Lib.hid (HPut.out W0 (.slice none 0 0) [] 16 (65528 + 0) 65528 (World.ownsRow_nil _ _ _ _) O0.out (by have := hz0; omega) (by decide) (by decide) (by decide) (by omega))
    go_wp2_with fail
    refine (P1.out).mono ?_
    rintro _ u1 ⟨v1, rfl, hr1, ho1, _⟩
    have R1 := Lib.hid hr1
    have O1 := Lib.hid ((O0.out).trans ho1)
    clear hr1 ho1 P1
    have hz1 := lenA 16 (65528 + 0) hz0
    clear q0
    obtain ⟨q1, q2, q3, q4, q5, q6, q7⟩ := HQ.out u1 O1.out
    have P2 := Lib.hid (HPut.out u1 v1 ([] ++ bitsN 16 (65528 + 0)) 4 cb (cb : Nat) R1.out O1.out (by have := hz1; omega) (by decide) (by decide) (by have : (2 : Nat) ^ 4 = 16 := rfl; omega) (by omega))
    go_wp2_with fail
    refine (P2.out).mono ?_
    rintro _ u2 ⟨v2, rfl, hr2, ho2, _⟩
    have R2 := Lib.hid hr2
    have O2 := Lib.hid ((O1.out).trans ho2)
    clear hr2 ho2 P2
    have hz2 := lenA 4 cb hz1
    clear q1 q2 q3 q4 q5 q6 q7
    obtain ⟨q1, q2, q3, q4, q5, q6, q7⟩ := HQ.out u2 O2.out
    have P3 := Lib.hid (HPut.out u2 v2 (([] ++ bitsN 16 (65528 + 0)) ++ bitsN 4 cb) 4 cr (cr : Nat) R2.out O2.out (by have := hz2; omega) (by decide) (by decide) (by have : (2 : Nat) ^ 4 = 16 := rfl; omega) (by omega))
    go_wp2_with fail
    refine (P3.out).mono ?_
    rintro _ u3 ⟨v3, rfl, hr3, ho3, _⟩
    have R3 := Lib.hid hr3
    have O3 := Lib.hid ((O2.out).trans ho3)
    clear hr3 ho3 P3
    have hz3 := lenA 4 cr hz2
    clear q1 q2 q3 q4 q5 q6 q7
    obtain ⟨q1, q2, q3, q4, q5, q6, q7⟩ := HQ.out u3 O3.out
    have P4 := Lib.hid (HPut.out u3 v3 ((([] ++ bitsN 16 (65528 + 0)) ++ bitsN 4 cb) ++ bitsN 4 cr) 4 cm (cm : Nat) R3.out O3.out (by have := hz3; omega) (by decide) (by decide) (by have : (2 : Nat) ^ 4 = 16 := rfl; omega) (by omega))
    go_wp2_with fail
    refine (P4.out).mono ?_
    rintro _ u4 ⟨v4, rfl, hr4, ho4, _⟩
    have R4 := Lib.hid hr4
    have O4 := Lib.hid ((O3.out).trans ho4)
    clear hr4 ho4 P4
    have hz4 := lenA 4 cm hz3
    clear q1 q2 q3 q4 q5 q6 q7
    obtain ⟨q1, q2, q3, q4, q5, q6, q7⟩ := HQ.out u4 O4.out
    have P5 := Lib.hid (HPut.out u4 v4 (((([] ++ bitsN 16 (65528 + 0)) ++ bitsN 4 cb) ++ bitsN 4 cr) ++ bitsN 4 cm) 3 cD (cD : Nat) R4.out O4.out (by have := hz4; omega) (by decide) (by decide) (by have : (2 : Nat) ^ 3 = 8 := rfl; omega) (by omega))
    go_wp2_with fail
    refine (P5.out).mono ?_
    rintro _ u5 ⟨v5, rfl, hr5, ho5, _⟩
    have R5 := Lib.hid hr5
    have O5 := Lib.hid ((O4.out).trans ho5)
    clear hr5 ho5 P5
    have hz5 := lenA 3 cD hz4
    clear q1 q2 q3 q4 q5 q6 q7
    go_wp2_with (at_builtin; refine U.wpList_append_bits rfl (.tmp 42) (.tmp 43) rfl (w.heap.size + 1) v5 ((((([] ++ bitsN 16 (65528 + 0)) ++ bitsN 4 cb) ++ bitsN 4 cr) ++ bitsN 4 cm) ++ bitsN 3 cD) rfl (U.bitrow_alloc R5.out _) u5.heap.size 1 1 [0] rfl rfl (U.bit_box _ rfl) ?h63 ?hbase ?rest)
    case h63 => show _ + 1 ≤ 1000000; have := hz5; omega
    case hbase => have h9 := O5.out.size; have h8 := HS0.out; simp; omega
    case rest =>
      intro v6 u6 hown6 hgr6
      have O6 : Hid (Only (U.Top (w.heap.size + 1)) W0 u6) := Lib.hid ((O5.out.alloc _).grown hgr6 (fun q e => .inl (World.ownsRow.lt R5.out q e).1))
      have hl6 : (((((([] ++ bitsN 16 (65528 + 0)) ++ bitsN 4 cb) ++ bitsN 4 cr) ++ bitsN 4 cm) ++ bitsN 3 cD) ++ [0]).length ≤ 32 := by rw [List.length_append]; show _ + 1 ≤ 32; have := hz5; omega
      clear hz0 hz1 hz2 hz3 hz4 hz5
      generalize hl6e : ((((([] ++ bitsN 16 (65528 + 0)) ++ bitsN 4 cb) ++ bitsN 4 cr) ++ bitsN 4 cm) ++ bitsN 3 cD) ++ [0] = l6 at *
      have R6 : Hid (U.Bitrow u6 (w.heap.size + 1) v6 l6) := Lib.hid (by rw [← hl6e]; simpa using hown6)
      obtain ⟨q1, q2, q3, q4, q5, q6, q7⟩ := HQ.out u6 O6.out
      have P7 := Lib.hid (U.putRef_any (w := u6) nn (by omega))
      clear hown6 hgr6 hl6e
      go_wp2_with fail
      refine (P7.out).mono ?_
      rintro _ u7 ⟨v7, rfl, hs7, ho7⟩
      have P8 := Lib.hid (U.bitsRef_any hs7 (by rw [U.cd_len]; have := U.szOf_bd nn; omega))
      have O7 := Lib.hid (O6.out.trans (U.Only.top ho7))
      have R7 := Lib.hid (U.row_keep R6.out ho7)
      clear hs7 ho7 P7 q1 q2 q3 q4 q5 q6 q7
      go_wp2_with fail
      refine (P8.out).mono ?_
      rintro _ u8 ⟨v8, rfl, hr8, ho8⟩
      have O8 := Lib.hid (O7.out.trans (U.Only.top ho8))
      have R8 := Lib.hid (U.row_keep R7.out ho8)
      have RM : Hid (U.Bitrow u8 u7.heap.size v8 (bitsOf (U.cd nn))) := Lib.hid (by unfold U.Bitrow; rw [bitsOf_len]; exact hr8)
      have hcl := U.cd_len nn
      have hcz := U.szOf_bd nn
      have hml : (bitsOf (U.cd nn)).length = 8 * U.szOf nn := by rw [bitsOf_len, hcl]
      have hz8 := O8.out.size
      clear hr8 ho8 P8 hcl
      generalize bitsOf (U.cd nn) = M8 at *
      have hj1 : 0 < M8.length := by omega
      have hj2 : l6.length + M8.length ≤ 1000000 := by omega
      have hj3 : w.heap.size + 1 ≤ u8.heap.size := by have := HS0.out; omega
      go_wp2_with (at_builtin; refine U.wpList_join_bits rfl (.tmp 45) (.tmp 49) rfl (w.heap.size + 1) u7.heap.size v6 v8 l6 M8 rfl rfl R8.out RM.out hj1 hj2 hj3 ?join)
      case join =>
        intro v9 u9 hr9 ho9
        have O9 := Lib.hid (O8.out.trans ho9)
        have hl9 : (l6 ++ M8).length ≤ 100 := by rw [List.length_append]; omega
        have R9 := Lib.hid hr9
        generalize l6 ++ M8 = l9 at *
        clear hr9 ho9
        rcases HKb with ⟨hcb, Bk, hBk, hBl, rfl⟩ | ⟨hcb, Bk, hBk, hBl, rfl⟩ | ⟨hcb6, hcb7, rfl⟩
        · have d11 : ((cb : Int) == 6) = true := by simp; omega
          have d13 : ((cb : Int) == 7) = false := by simp; omega
          obtain ⟨q1, q2, q3, q4, q5, q6, q7⟩ := HQ.out u9 O9.out
          have hblk1 : 1 ≤ blk := by omega
          have hblk2 : blk ≤ 65536 := by omega
          have P9 := Lib.hid (HPut.out u9 v9 l9 8 Bk (Bk : Nat) R9.out O9.out (by omega) (by decide) (by decide) hBl rfl)
          go_wp2_with fail
          refine (P9.out).mono ?_
          rintro _ u10 ⟨v10, rfl, hr10, ho10, _⟩
          have R10 := Lib.hid hr10
          have O10 := Lib.hid (O9.out.trans ho10)
          have HLz : Hid ((l9 ++ bitsN 8 Bk).length ≤ 200) := Lib.hid (by rw [List.length_append, bitsN_len]; omega)
          clear hr10 ho10 P9 q1 q2 q3 q4 q5 q6 q7 hBk hblk1 hblk2 hBl
          obtain ⟨q1, q2, q3, q4, q5, q6, q7⟩ := HQ.out u10 O10.out
          rcases HKr with ⟨hcr, hr12, Q, hQ, hQl, rfl⟩ | ⟨hcr, hr12, Un, Q, hU, hU0, hU1, hQ, hQl, rfl⟩ | ⟨hcr, rfl⟩
          · have d15 : ((cr : Int) == 12) = true := by simp; omega
            have d17 : decide ((12 : Int) < (cr : Int)) = false := by simp; omega
            have hw15 := tdiv_wrap (n := rate) (by constructor <;> omega) 1000 (by decide)
            have hw15' : IntKind.i64.wrap (rate.tdiv 1000) = rate.tdiv 1000 := hw15
            obtain ⟨q1, q2, q3, q4, q5, q6, q7⟩ := HQ.out u10 O10.out
            have P10 := Lib.hid (HPut.out u10 v10 (l9 ++ bitsN 8 Bk) 8 Q (Q : Nat) R10.out O10.out (by have := HLz.out; omega) (by decide) (by decide) hQl rfl)
            go_wp2_with fail
            refine (P10.out).mono ?_
            rintro _ u11 ⟨v11, rfl, hr11, ho11, _⟩
            have R11 := Lib.hid hr11
            have O11 := Lib.hid (O10.out.trans ho11)
            clear hr11 ho11 P10
            obtain ⟨q1, q2, q3, q4, q5, q6, q7⟩ := HQ.out u11 O11.out
            have hLe : ((l9 ++ bitsN 8 Bk) ++ bitsN 8 Q) = L9 := by rw [HL.out]; try simp only [List.append_nil]
            have RL : Hid (U.Bitrow u11 (w.heap.size + 1) v11 L9) := Lib.hid (by rw [← hLe]; exact R11.out)
            have OL : Hid (Only (U.Top (w.heap.size + 1)) W0 u11) := O11
            have PB := Lib.hid (U.bytesRef_any RL.out HPk.out (by omega))
            clear hLe
            go_wp2_with fail
            refine (PB.out).mono ?_
            rintro _ y1 ⟨z1, rfl, hy1, oy1⟩
            have HY1 := Lib.hid hy1
            have OY1 := Lib.hid (OL.out.trans (U.Only.top oy1))
            have PS := Lib.hid (HSum.out y1 z1 (U.owns_src hy1 (by omega) Hlt.out))
            obtain ⟨A1, c1, hz1⟩ := owns_slice hy1
            subst hz1
            have HYs : Hid (u11.heap.size ≤ y1.heap.size) := Lib.hid oy1.size
            clear hy1 oy1 PB
            go_wp2_with fail
            refine (PS.out).mono ?_
            rintro _ y2 ⟨rfl, oy2⟩
            have oz1 := HYs.out
            have oz2 := oy2.size
            have HY2 := Lib.hid (owns_only HY1.out oy2 (fun _ _ e => e))
            have OY2 := Lib.hid (OY1.out.trans (U.Only.top oy2))
            have hS2 : (S : Int) % 256 = (S : Int) := by omega
            have hyz : u11.heap.size ≤ y2.heap.size := by omega
            clear oy2 PS
            go_wp2_with (at_builtin; refine U.wpList_append_bytes rfl (.tmp 100) (.tmp 104) rfl u11.heap.size (.slice A1 BB.length c1) BB.length (BB.map byt) rfl (HY2.out.alloc _) (some ⟨y2.heap.size, 0, none⟩) 1 1 [S] rfl (U.src1 y2 S hS _) (by omega) (by simp; omega) ?fin)
            case fin =>
              intro v3 y3 hown3 hgr3 _
              have OY3 : Only (U.Top (w.heap.size + 1)) W0 y3 := (OY2.out.alloc _).grown hgr3 (fun q e => .inl (by have h5 := (HY2.out.lt q e).1; have h6 := OL.out.size; have h7 := HS0.out; show w.heap.size + 1 ≤ q; omega))
              have hW3 : y3.ownsRow u11.heap.size 5 1 v3 WB.length (WB.map byt) := by rw [hwl, HW.out, List.map_append]; exact hown3
              obtain ⟨A4, c4, hz4⟩ := owns_slice hW3
              subst hz4
              have HW3 := Lib.hid hW3
              have OF := Lib.hid (HEnd.out _ OY3)
              have hwz : WB.length ≤ 140737488355328 := by omega
              clear hown3 hgr3 hW3 OY3
              go_wp2
              go_ret
              exact ⟨_, _, rfl, U.owns_src HW3.out hwz HWl.out, OF.out⟩
          · have d15 : ((cr : Int) == 12) = false := by simp; omega
            have d17 : (12 : Int) < (cr : Int) := by omega
            have HUn : Hid (∀ u, Calls Tryd.prog 23 #[iv (cr : Nat)] u fun e w' => e = .returned (iv (Un : Nat)) ∧ u = w') := Lib.hid (fun u => by rw [← hU]; exact unit_any _ u)
            have hw17 := tdiv_wrap (n := rate) (by constructor <;> omega) Un hU0
            have HQe : Hid (rate.tdiv (Un : Nat) = (Q : Nat)) := Lib.hid hQ
            have HQl : Hid (Q < 2 ^ 16) := Lib.hid hQl
            have hU2 : ¬ ((Un : Nat) : Int) = 0 := by omega
            have hU3 : ¬ Un = 0 := by omega
            obtain ⟨q1, q2, q3, q4, q5, q6, q7⟩ := HQ.out u10 O10.out
            clear hU hQ hQl
            go_wp2
            have fr_R0A : ∀ j s, j < 12 → (([some 88, some 89, some 90, some 91, some 92, some 93, some 94, some 95, some 87, some 96, some 97, some 4] : List (Option Nat)).all fun d => d != some s) = true → ([some 88, some 89, some 90, some 91, some 92, some 93, some 94, some 95, some 87, some 96, some 97, some 4] : List (Option Nat)).getD j none ≠ some s := by
              intro j s hj ha e
              rw [List.getD_eq_getElem?_getD, List.getElem?_eq_getElem (by exact hj), Option.getD_some] at e
              have := List.all_eq_true.1 ha _ (List.getElem_mem (by exact hj))
              rw [e] at this
              simp at this
            refine region_tel (by kernel_rfl) (fun k0 => ([some 88, some 89, some 90, some 91, some 92, some 93, some 94, some 95, some 87, some 96, some 97, some 4] : List (Option Nat)).getD k0 none) (PL [eqP v10, eqP (.pointer (some ⟨w.heap.size, 7, none⟩)), eqP (iv rate), eqP (.pointer (some ⟨w.heap.size, 2, none⟩)), eqP (iv (cr : Nat)), eqP (iv (Un : Nat)), eqP (iv (Q : Nat)), (PutP (w.heap.size + 1) u10 ((l9 ++ bitsN 8 Bk) ++ bitsN 16 Q)), (PutP (w.heap.size + 1) u10 ((l9 ++ bitsN 8 Bk) ++ bitsN 16 Q)), (RowP (w.heap.size + 1) u10 ((l9 ++ bitsN 8 Bk) ++ bitsN 16 Q)), eqP (iv 0), (RowP (w.heap.size + 1) u10 ((l9 ++ bitsN 8 Bk) ++ bitsN 16 Q))]) (FrP u10) (OldP u10 7) 106 12 rfl (by kernel_rfl) (by kernel_rfl) rfl (by kernel_rfl) (by kernel_rfl) (stab_all ⟨fun _ _ _ h _ => h, fun _ _ _ h _ => h, fun _ _ _ h _ => h, fun _ _ _ h _ => h, fun _ _ _ h _ => h, fun _ _ _ h _ => h, fun _ _ _ h _ => h, fun _ _ _ h ho => h.keep ho, fun _ _ _ h ho => h.keep ho, fun _ _ _ h ho => h.keep ho, fun _ _ _ h _ => h, fun _ _ _ h ho => h.keep ho, trivial⟩) OldP.begin ?stepsR0A (fun vs => [(88, vs 0), (89, vs 1), (90, vs 2), (91, vs 3), (92, vs 4), (93, vs 5), (94, vs 6), (95, vs 7), (87, vs 8), (96, vs 9), (97, vs 10), (4, vs 11)]) (fun vs => rfl) ?doneR0A
            case stepsR0A =>
              refine ⟨?_, ?_, ?_, ?_, ?_, ?_, ?_, ?_, ?_, ?_, ?_, ?_, trivial⟩
              · intro L vs A' u hW hL0 hnd K' hK
                have ny7 : L 7 = false := notYet hW.closed (j := 7) (by rfl) (k := 0) (by kernel_rfl) hL0
                have ny8 : L 8 = false := notYet hW.closed (j := 8) (by rfl) (k := 7) (by kernel_rfl) ny7
                have ny9 : L 9 = false := notYet hW.closed (j := 9) (by rfl) (k := 8) (by kernel_rfl) ny8
                have ny11 : L 11 = false := notYet hW.closed (j := 11) (by rfl) (k := 9) (by kernel_rfl) ny9
                have r4 : A'.tmps[4]? = some (v10) := (hW.fresh 11 4 (by decide) ny11 rfl).trans rfl
                go_simp
                exact hK _ _ rfl (FrP.refl _ _) (hW.wi.s.same (by decide))
              · intro L vs A' u hW hL0 hnd K' hK
                have r1 : A'.tmps[1]? = some (.pointer (some ⟨w.heap.size, 0, none⟩)) := (hW.out 1 (fun j hj => fr_R0A j 1 hj (by kernel_rfl))).trans rfl
                go_simp
                exact hK _ _ rfl (FrP.refl _ _) (hW.wi.s.same (by decide))
              · intro L vs A' u hW hL0 hnd K' hK
                have ny6 : L 6 = false := notYet hW.closed (j := 6) (by rfl) (k := 2) (by kernel_rfl) hL0
                have ny7 : L 7 = false := notYet hW.closed (j := 7) (by rfl) (k := 6) (by kernel_rfl) ny6
                have r89 : A'.tmps[89]? = some (.pointer (some ⟨w.heap.size, 7, none⟩)) := by
                  obtain ⟨x, e, h⟩ := hW.tel 1 89 (by decide) (hnd 1 (by kernel_rfl)) rfl
                  rw [e]; exact congrArg some h
                have hc := U.cell_keep (hW.wi.s.old ny7).1 q7
                go_simp
                exact hK _ _ rfl (FrP.refl _ _) (hW.wi.s.same (by decide))
              · intro L vs A' u hW hL0 hnd K' hK
                have r1 : A'.tmps[1]? = some (.pointer (some ⟨w.heap.size, 0, none⟩)) := (hW.out 1 (fun j hj => fr_R0A j 1 hj (by kernel_rfl))).trans rfl
                go_simp
                exact hK _ _ rfl (FrP.refl _ _) (hW.wi.s.same (by decide))
              · intro L vs A' u hW hL0 hnd K' hK
                have ny5 : L 5 = false := notYet hW.closed (j := 5) (by rfl) (k := 4) (by kernel_rfl) hL0
                have ny6 : L 6 = false := notYet hW.closed (j := 6) (by rfl) (k := 5) (by kernel_rfl) ny5
                have ny7 : L 7 = false := notYet hW.closed (j := 7) (by rfl) (k := 6) (by kernel_rfl) ny6
                have r91 : A'.tmps[91]? = some (.pointer (some ⟨w.heap.size, 2, none⟩)) := by
                  obtain ⟨x, e, h⟩ := hW.tel 3 91 (by decide) (hnd 3 (by kernel_rfl)) rfl
                  rw [e]; exact congrArg some h
                have hc := U.cell_keep (hW.wi.s.old ny7).1 q2
                go_simp
                exact hK _ _ rfl (FrP.refl _ _) (hW.wi.s.same (by decide))
              · intro L vs A' u hW hL0 hnd K' hK
                have r92 : A'.tmps[92]? = some (iv (cr : Nat)) := by
                  obtain ⟨x, e, h⟩ := hW.tel 4 92 (by decide) (hnd 4 (by kernel_rfl)) rfl
                  rw [e]; exact congrArg some h
                have HCL := Lib.hid (HUn.out u)
                go_simp
                refine (HCL.out).mono ?_
                rintro _ u' ⟨rfl, rfl⟩
                exact hK _ _ rfl (FrP.refl _ _) (hW.wi.s.same (by decide))
              · intro L vs A' u hW hL0 hnd K' hK
                have r90 : A'.tmps[90]? = some (iv rate) := by
                  obtain ⟨x, e, h⟩ := hW.tel 2 90 (by decide) (hnd 2 (by kernel_rfl)) rfl
                  rw [e]; exact congrArg some h
                have r93 : A'.tmps[93]? = some (iv (Un : Nat)) := by
                  obtain ⟨x, e, h⟩ := hW.tel 5 93 (by decide) (hnd 5 (by kernel_rfl)) rfl
                  rw [e]; exact congrArg some h
                go_simp
                exact hK _ _ (congrArg iv HQe.out) (FrP.refl _ _) (hW.wi.s.same (by decide))
              · intro L vs A' u hW hL0 hnd K' hK
                have r88 : A'.tmps[88]? = some (v10) := by
                  obtain ⟨x, e, h⟩ := hW.tel 0 88 (by decide) (hnd 0 (by kernel_rfl)) rfl
                  rw [e]; exact congrArg some h
                have r94 : A'.tmps[94]? = some (iv (Q : Nat)) := by
                  obtain ⟨x, e, h⟩ := hW.tel 6 94 (by decide) (hnd 6 (by kernel_rfl)) rfl
                  rw [e]; exact congrArg some h
                obtain ⟨hS1, hS2⟩ := hW.wi.s.old hL0
                have HCL := Lib.hid (HPut.out u v10 (l9 ++ bitsN 8 Bk) 16 Q (Q : Nat) (U.row_keep R10.out hS1) ((O10).out.trans (U.Only.top hS1)) (by have := HLz.out; omega) (by decide) (by decide) HQl.out rfl)
                go_simp
                refine (HCL.out).mono ?_
                rintro _ u' ⟨v', rfl, hr', ho', hg'⟩
                exact hK _ _ (show PutP _ _ _ _ _ from ⟨by omega, v', rfl, hr', (U.Only.top hS1).trans ho'⟩) (fun hlt => by omega) OldP.fin
              · intro L vs A' u hW hL0 hnd K' hK
                obtain ⟨x95, r95, p95⟩ := hW.tel 7 95 (by decide) (hnd 7 (by kernel_rfl)) rfl
                go_simp
                exact hK _ _ p95 (FrP.refl _ _) (hW.wi.s.same (by decide))
              · intro L vs A' u hW hL0 hnd K' hK
                obtain ⟨x87, r87, p87⟩ := hW.tel 8 87 (by decide) (hnd 8 (by kernel_rfl)) rfl
                obtain ⟨h1, v', rfl, h2, h3⟩ := p87
                go_simp
                exact hK _ _ (show RowP _ _ _ _ _ from ⟨h1, h2, h3⟩) (FrP.refl _ _) (hW.wi.s.same (by decide))
              · intro L vs A' u hW hL0 hnd K' hK
                obtain ⟨x87, r87, p87⟩ := hW.tel 8 87 (by decide) (hnd 8 (by kernel_rfl)) rfl
                obtain ⟨h1, v', rfl, h2, h3⟩ := p87
                go_simp
                exact hK _ _ rfl (FrP.refl _ _) (hW.wi.s.same (by decide))
              · intro L vs A' u hW hL0 hnd K' hK
                obtain ⟨x96, r96, p96⟩ := hW.tel 9 96 (by decide) (hnd 9 (by kernel_rfl)) rfl
                go_simp
                exact hK _ _ p96 (FrP.refl _ _) (hW.wi.s.same (by decide))
            case doneR0A =>
              intro L vs u12 hS hP hall
              have e0 : vs 0 = v10 := hP 0 (by decide)
              have e1 : vs 1 = .pointer (some ⟨w.heap.size, 7, none⟩) := hP 1 (by decide)
              have e2 : vs 2 = iv rate := hP 2 (by decide)
              have e3 : vs 3 = .pointer (some ⟨w.heap.size, 2, none⟩) := hP 3 (by decide)
              have e4 : vs 4 = iv (cr : Nat) := hP 4 (by decide)
              have e5 : vs 5 = iv (Un : Nat) := hP 5 (by decide)
              have e6 : vs 6 = iv (Q : Nat) := hP 6 (by decide)
              obtain ⟨_, hr12, ho12⟩ : RowP (w.heap.size + 1) u10 ((l9 ++ bitsN 8 Bk) ++ bitsN 16 Q) (vs 11) u12 := hP 11 (by decide)
              have R12 := Lib.hid hr12
              have O12 := Lib.hid ((O10).out.trans ho12)
              clear hr12 ho12 hS hP hall fr_R0A q1 q2 q3 q4 q5 q6 q7 hw17 HUn hU2 hU3 hU0 hU1
              simp only [putV, List.foldl_cons, List.foldl_nil, List.setIfInBounds_toArray, List.set_cons_zero, List.set_cons_succ]
              clear e0 e1 e2 e3 e4 e5 e6
              generalize vs 11 = v12 at *
              have hLe : ((l9 ++ bitsN 8 Bk) ++ bitsN 16 Q) = L9 := by rw [HL.out]; try simp only [List.append_nil]
              have RL : Hid (U.Bitrow u12 (w.heap.size + 1) v12 L9) := Lib.hid (by rw [← hLe]; exact R12.out)
              have OL : Hid (Only (U.Top (w.heap.size + 1)) W0 u12) := O12
              have PB := Lib.hid (U.bytesRef_any RL.out HPk.out (by omega))
              clear hLe
              go_wp2_with fail
              refine (PB.out).mono ?_
              rintro _ y1 ⟨z1, rfl, hy1, oy1⟩
              have HY1 := Lib.hid hy1
              have OY1 := Lib.hid (OL.out.trans (U.Only.top oy1))
              have PS := Lib.hid (HSum.out y1 z1 (U.owns_src hy1 (by omega) Hlt.out))
              obtain ⟨A1, c1, hz1⟩ := owns_slice hy1
              subst hz1
              have HYs : Hid (u12.heap.size ≤ y1.heap.size) := Lib.hid oy1.size
              clear hy1 oy1 PB
              go_wp2_with fail
              refine (PS.out).mono ?_
              rintro _ y2 ⟨rfl, oy2⟩
              have oz1 := HYs.out
              have oz2 := oy2.size
              have HY2 := Lib.hid (owns_only HY1.out oy2 (fun _ _ e => e))
              have OY2 := Lib.hid (OY1.out.trans (U.Only.top oy2))
              have hS2 : (S : Int) % 256 = (S : Int) := by omega
              have hyz : u12.heap.size ≤ y2.heap.size := by omega
              clear oy2 PS
              go_wp2_with (at_builtin; refine U.wpList_append_bytes rfl (.tmp 100) (.tmp 104) rfl u12.heap.size (.slice A1 BB.length c1) BB.length (BB.map byt) rfl (HY2.out.alloc _) (some ⟨y2.heap.size, 0, none⟩) 1 1 [S] rfl (U.src1 y2 S hS _) (by omega) (by simp; omega) ?fin)
              case fin =>
                intro v3 y3 hown3 hgr3 _
                have OY3 : Only (U.Top (w.heap.size + 1)) W0 y3 := (OY2.out.alloc _).grown hgr3 (fun q e => .inl (by have h5 := (HY2.out.lt q e).1; have h6 := OL.out.size; have h7 := HS0.out; show w.heap.size + 1 ≤ q; omega))
                have hW3 : y3.ownsRow u12.heap.size 5 1 v3 WB.length (WB.map byt) := by rw [hwl, HW.out, List.map_append]; exact hown3
                obtain ⟨A4, c4, hz4⟩ := owns_slice hW3
                subst hz4
                have HW3 := Lib.hid hW3
                have OF := Lib.hid (HEnd.out _ OY3)
                have hwz : WB.length ≤ 140737488355328 := by omega
                clear hown3 hgr3 hW3 OY3
                go_wp2
                go_ret
                exact ⟨_, _, rfl, U.owns_src HW3.out hwz HWl.out, OF.out⟩
          · have d15 : ((cr : Int) == 12) = false := by simp; omega
            have d17 : decide ((12 : Int) < (cr : Int)) = false := by simp; omega
            obtain ⟨q1, q2, q3, q4, q5, q6, q7⟩ := HQ.out u10 O10.out
            have hLe : (l9 ++ bitsN 8 Bk) = L9 := by rw [HL.out]; try simp only [List.append_nil]
            have RL : Hid (U.Bitrow u10 (w.heap.size + 1) v10 L9) := Lib.hid (by rw [← hLe]; exact R10.out)
            have OL : Hid (Only (U.Top (w.heap.size + 1)) W0 u10) := O10
            have PB := Lib.hid (U.bytesRef_any RL.out HPk.out (by omega))
            clear hLe
            go_wp2_with fail
            refine (PB.out).mono ?_
            rintro _ y1 ⟨z1, rfl, hy1, oy1⟩
            have HY1 := Lib.hid hy1
            have OY1 := Lib.hid (OL.out.trans (U.Only.top oy1))
            have PS := Lib.hid (HSum.out y1 z1 (U.owns_src hy1 (by omega) Hlt.out))
            obtain ⟨A1, c1, hz1⟩ := owns_slice hy1
            subst hz1
            have HYs : Hid (u10.heap.size ≤ y1.heap.size) := Lib.hid oy1.size
            clear hy1 oy1 PB
            go_wp2_with fail
            refine (PS.out).mono ?_
            rintro _ y2 ⟨rfl, oy2⟩
            have oz1 := HYs.out
            have oz2 := oy2.size
            have HY2 := Lib.hid (owns_only HY1.out oy2 (fun _ _ e => e))
            have OY2 := Lib.hid (OY1.out.trans (U.Only.top oy2))
            have hS2 : (S : Int) % 256 = (S : Int) := by omega
            have hyz : u10.heap.size ≤ y2.heap.size := by omega
            clear oy2 PS
            go_wp2_with (at_builtin; refine U.wpList_append_bytes rfl (.tmp 100) (.tmp 104) rfl u10.heap.size (.slice A1 BB.length c1) BB.length (BB.map byt) rfl (HY2.out.alloc _) (some ⟨y2.heap.size, 0, none⟩) 1 1 [S] rfl (U.src1 y2 S hS _) (by omega) (by simp; omega) ?fin)
            case fin =>
              intro v3 y3 hown3 hgr3 _
              have OY3 : Only (U.Top (w.heap.size + 1)) W0 y3 := (OY2.out.alloc _).grown hgr3 (fun q e => .inl (by have h5 := (HY2.out.lt q e).1; have h6 := OL.out.size; have h7 := HS0.out; show w.heap.size + 1 ≤ q; omega))
              have hW3 : y3.ownsRow u10.heap.size 5 1 v3 WB.length (WB.map byt) := by rw [hwl, HW.out, List.map_append]; exact hown3
              obtain ⟨A4, c4, hz4⟩ := owns_slice hW3
              subst hz4
              have HW3 := Lib.hid hW3
              have OF := Lib.hid (HEnd.out _ OY3)
              have hwz : WB.length ≤ 140737488355328 := by omega
              clear hown3 hgr3 hW3 OY3
              go_wp2
              go_ret
              exact ⟨_, _, rfl, U.owns_src HW3.out hwz HWl.out, OF.out⟩
        · have d11 : ((cb : Int) == 6) = false := by simp; omega
          have d13 : ((cb : Int) == 7) = true := by simp; omega
          obtain ⟨q1, q2, q3, q4, q5, q6, q7⟩ := HQ.out u9 O9.out
          have hblk1 : 1 ≤ blk := by omega
          have hblk2 : blk ≤ 65536 := by omega
          have P9 := Lib.hid (HPut.out u9 v9 l9 16 Bk (Bk : Nat) R9.out O9.out (by omega) (by decide) (by decide) hBl rfl)
          go_wp2_with fail
          refine (P9.out).mono ?_
          rintro _ u10 ⟨v10, rfl, hr10, ho10, _⟩
          have R10 := Lib.hid hr10
          have O10 := Lib.hid (O9.out.trans ho10)
          have HLz : Hid ((l9 ++ bitsN 16 Bk).length ≤ 200) := Lib.hid (by rw [List.length_append, bitsN_len]; omega)
          clear hr10 ho10 P9 q1 q2 q3 q4 q5 q6 q7 hBk hblk1 hblk2 hBl
          rcases HKr with ⟨hcr, hr12, Q, hQ, hQl, rfl⟩ | ⟨hcr, hr12, Un, Q, hU, hU0, hU1, hQ, hQl, rfl⟩ | ⟨hcr, rfl⟩
          · have d15 : ((cr : Int) == 12) = true := by simp; omega
            have d17 : decide ((12 : Int) < (cr : Int)) = false := by simp; omega
            have hw15 := tdiv_wrap (n := rate) (by constructor <;> omega) 1000 (by decide)
            have hw15' : IntKind.i64.wrap (rate.tdiv 1000) = rate.tdiv 1000 := hw15
            obtain ⟨q1, q2, q3, q4, q5, q6, q7⟩ := HQ.out u10 O10.out
            have P10 := Lib.hid (HPut.out u10 v10 (l9 ++ bitsN 16 Bk) 8 Q (Q : Nat) R10.out O10.out (by have := HLz.out; omega) (by decide) (by decide) hQl rfl)
            go_wp2_with fail
            refine (P10.out).mono ?_
            rintro _ u11 ⟨v11, rfl, hr11, ho11, _⟩
            have R11 := Lib.hid hr11
            have O11 := Lib.hid (O10.out.trans ho11)
            clear hr11 ho11 P10
            obtain ⟨q1, q2, q3, q4, q5, q6, q7⟩ := HQ.out u11 O11.out
            have hLe : ((l9 ++ bitsN 16 Bk) ++ bitsN 8 Q) = L9 := by rw [HL.out]; try simp only [List.append_nil]
            have RL : Hid (U.Bitrow u11 (w.heap.size + 1) v11 L9) := Lib.hid (by rw [← hLe]; exact R11.out)
            have OL : Hid (Only (U.Top (w.heap.size + 1)) W0 u11) := O11
            have PB := Lib.hid (U.bytesRef_any RL.out HPk.out (by omega))
            clear hLe
            go_wp2_with fail
            refine (PB.out).mono ?_
            rintro _ y1 ⟨z1, rfl, hy1, oy1⟩
            have HY1 := Lib.hid hy1
            have OY1 := Lib.hid (OL.out.trans (U.Only.top oy1))
            have PS := Lib.hid (HSum.out y1 z1 (U.owns_src hy1 (by omega) Hlt.out))
            obtain ⟨A1, c1, hz1⟩ := owns_slice hy1
            subst hz1
            have HYs : Hid (u11.heap.size ≤ y1.heap.size) := Lib.hid oy1.size
            clear hy1 oy1 PB
            go_wp2_with fail
            refine (PS.out).mono ?_
            rintro _ y2 ⟨rfl, oy2⟩
            have oz1 := HYs.out
            have oz2 := oy2.size
            have HY2 := Lib.hid (owns_only HY1.out oy2 (fun _ _ e => e))
            have OY2 := Lib.hid (OY1.out.trans (U.Only.top oy2))
            have hS2 : (S : Int) % 256 = (S : Int) := by omega
            have hyz : u11.heap.size ≤ y2.heap.size := by omega
            clear oy2 PS
            go_wp2_with (at_builtin; refine U.wpList_append_bytes rfl (.tmp 100) (.tmp 104) rfl u11.heap.size (.slice A1 BB.length c1) BB.length (BB.map byt) rfl (HY2.out.alloc _) (some ⟨y2.heap.size, 0, none⟩) 1 1 [S] rfl (U.src1 y2 S hS _) (by omega) (by simp; omega) ?fin)
            case fin =>
              intro v3 y3 hown3 hgr3 _
              have OY3 : Only (U.Top (w.heap.size + 1)) W0 y3 := (OY2.out.alloc _).grown hgr3 (fun q e => .inl (by have h5 := (HY2.out.lt q e).1; have h6 := OL.out.size; have h7 := HS0.out; show w.heap.size + 1 ≤ q; omega))
              have hW3 : y3.ownsRow u11.heap.size 5 1 v3 WB.length (WB.map byt) := by rw [hwl, HW.out, List.map_append]; exact hown3
              obtain ⟨A4, c4, hz4⟩ := owns_slice hW3
              subst hz4
              have HW3 := Lib.hid hW3
              have OF := Lib.hid (HEnd.out _ OY3)
              have hwz : WB.length ≤ 140737488355328 := by omega
              clear hown3 hgr3 hW3 OY3
              go_wp2
              go_ret
              exact ⟨_, _, rfl, U.owns_src HW3.out hwz HWl.out, OF.out⟩
          · have d15 : ((cr : Int) == 12) = false := by simp; omega
            have d17 : (12 : Int) < (cr : Int) := by omega
            have HUn : Hid (∀ u, Calls Tryd.prog 23 #[iv (cr : Nat)] u fun e w' => e = .returned (iv (Un : Nat)) ∧ u = w') := Lib.hid (fun u => by rw [← hU]; exact unit_any _ u)
            have hw17 := tdiv_wrap (n := rate) (by constructor <;> omega) Un hU0
            have HQe : Hid (rate.tdiv (Un : Nat) = (Q : Nat)) := Lib.hid hQ
            have HQl : Hid (Q < 2 ^ 16) := Lib.hid hQl
            have hU2 : ¬ ((Un : Nat) : Int) = 0 := by omega
            have hU3 : ¬ Un = 0 := by omega
            obtain ⟨q1, q2, q3, q4, q5, q6, q7⟩ := HQ.out u10 O10.out
            clear hU hQ hQl
            go_wp2
            have fr_R0B : ∀ j s, j < 12 → (([some 88, some 89, some 90, some 91, some 92, some 93, some 94, some 95, some 87, some 96, some 97, some 4] : List (Option Nat)).all fun d => d != some s) = true → ([some 88, some 89, some 90, some 91, some 92, some 93, some 94, some 95, some 87, some 96, some 97, some 4] : List (Option Nat)).getD j none ≠ some s := by
              intro j s hj ha e
              rw [List.getD_eq_getElem?_getD, List.getElem?_eq_getElem (by exact hj), Option.getD_some] at e
              have := List.all_eq_true.1 ha _ (List.getElem_mem (by exact hj))
              rw [e] at this
              simp at this
            refine region_tel (by kernel_rfl) (fun k0 => ([some 88, some 89, some 90, some 91, some 92, some 93, some 94, some 95, some 87, some 96, some 97, some 4] : List (Option Nat)).getD k0 none) (PL [eqP v10, eqP (.pointer (some ⟨w.heap.size, 7, none⟩)), eqP (iv rate), eqP (.pointer (some ⟨w.heap.size, 2, none⟩)), eqP (iv (cr : Nat)), eqP (iv (Un : Nat)), eqP (iv (Q : Nat)), (PutP (w.heap.size + 1) u10 ((l9 ++ bitsN 16 Bk) ++ bitsN 16 Q)), (PutP (w.heap.size + 1) u10 ((l9 ++ bitsN 16 Bk) ++ bitsN 16 Q)), (RowP (w.heap.size + 1) u10 ((l9 ++ bitsN 16 Bk) ++ bitsN 16 Q)), eqP (iv 0), (RowP (w.heap.size + 1) u10 ((l9 ++ bitsN 16 Bk) ++ bitsN 16 Q))]) (FrP u10) (OldP u10 7) 106 12 rfl (by kernel_rfl) (by kernel_rfl) rfl (by kernel_rfl) (by kernel_rfl) (stab_all ⟨fun _ _ _ h _ => h, fun _ _ _ h _ => h, fun _ _ _ h _ => h, fun _ _ _ h _ => h, fun _ _ _ h _ => h, fun _ _ _ h _ => h, fun _ _ _ h _ => h, fun _ _ _ h ho => h.keep ho, fun _ _ _ h ho => h.keep ho, fun _ _ _ h ho => h.keep ho, fun _ _ _ h _ => h, fun _ _ _ h ho => h.keep ho, trivial⟩) OldP.begin ?stepsR0B (fun vs => [(88, vs 0), (89, vs 1), (90, vs 2), (91, vs 3), (92, vs 4), (93, vs 5), (94, vs 6), (95, vs 7), (87, vs 8), (96, vs 9), (97, vs 10), (4, vs 11)]) (fun vs => rfl) ?doneR0B
            case stepsR0B =>
              refine ⟨?_, ?_, ?_, ?_, ?_, ?_, ?_, ?_, ?_, ?_, ?_, ?_, trivial⟩
              · intro L vs A' u hW hL0 hnd K' hK
                have ny7 : L 7 = false := notYet hW.closed (j := 7) (by rfl) (k := 0) (by kernel_rfl) hL0
                have ny8 : L 8 = false := notYet hW.closed (j := 8) (by rfl) (k := 7) (by kernel_rfl) ny7
                have ny9 : L 9 = false := notYet hW.closed (j := 9) (by rfl) (k := 8) (by kernel_rfl) ny8
                have ny11 : L 11 = false := notYet hW.closed (j := 11) (by rfl) (k := 9) (by kernel_rfl) ny9
                have r4 : A'.tmps[4]? = some (v10) := (hW.fresh 11 4 (by decide) ny11 rfl).trans rfl
                go_simp
                exact hK _ _ rfl (FrP.refl _ _) (hW.wi.s.same (by decide))
              · intro L vs A' u hW hL0 hnd K' hK
                have r1 : A'.tmps[1]? = some (.pointer (some ⟨w.heap.size, 0, none⟩)) := (hW.out 1 (fun j hj => fr_R0B j 1 hj (by kernel_rfl))).trans rfl
                go_simp
                exact hK _ _ rfl (FrP.refl _ _) (hW.wi.s.same (by decide))
              · intro L vs A' u hW hL0 hnd K' hK
                have ny6 : L 6 = false := notYet hW.closed (j := 6) (by rfl) (k := 2) (by kernel_rfl) hL0
                have ny7 : L 7 = false := notYet hW.closed (j := 7) (by rfl) (k := 6) (by kernel_rfl) ny6
                have r89 : A'.tmps[89]? = some (.pointer (some ⟨w.heap.size, 7, none⟩)) := by
                  obtain ⟨x, e, h⟩ := hW.tel 1 89 (by decide) (hnd 1 (by kernel_rfl)) rfl
                  rw [e]; exact congrArg some h
                have hc := U.cell_keep (hW.wi.s.old ny7).1 q7
                go_simp
                exact hK _ _ rfl (FrP.refl _ _) (hW.wi.s.same (by decide))
              · intro L vs A' u hW hL0 hnd K' hK
                have r1 : A'.tmps[1]? = some (.pointer (some ⟨w.heap.size, 0, none⟩)) := (hW.out 1 (fun j hj => fr_R0B j 1 hj (by kernel_rfl))).trans rfl
                go_simp
                exact hK _ _ rfl (FrP.refl _ _) (hW.wi.s.same (by decide))
              · intro L vs A' u hW hL0 hnd K' hK
                have ny5 : L 5 = false := notYet hW.closed (j := 5) (by rfl) (k := 4) (by kernel_rfl) hL0
                have ny6 : L 6 = false := notYet hW.closed (j := 6) (by rfl) (k := 5) (by kernel_rfl) ny5
                have ny7 : L 7 = false := notYet hW.closed (j := 7) (by rfl) (k := 6) (by kernel_rfl) ny6
                have r91 : A'.tmps[91]? = some (.pointer (some ⟨w.heap.size, 2, none⟩)) := by
                  obtain ⟨x, e, h⟩ := hW.tel 3 91 (by decide) (hnd 3 (by kernel_rfl)) rfl
                  rw [e]; exact congrArg some h
                have hc := U.cell_keep (hW.wi.s.old ny7).1 q2
                go_simp
                exact hK _ _ rfl (FrP.refl _ _) (hW.wi.s.same (by decide))
              · intro L vs A' u hW hL0 hnd K' hK
                have r92 : A'.tmps[92]? = some (iv (cr : Nat)) := by
                  obtain ⟨x, e, h⟩ := hW.tel 4 92 (by decide) (hnd 4 (by kernel_rfl)) rfl
                  rw [e]; exact congrArg some h
                have HCL := Lib.hid (HUn.out u)
                go_simp
                refine (HCL.out).mono ?_
                rintro _ u' ⟨rfl, rfl⟩
                exact hK _ _ rfl (FrP.refl _ _) (hW.wi.s.same (by decide))
              · intro L vs A' u hW hL0 hnd K' hK
                have r90 : A'.tmps[90]? = some (iv rate) := by
                  obtain ⟨x, e, h⟩ := hW.tel 2 90 (by decide) (hnd 2 (by kernel_rfl)) rfl
                  rw [e]; exact congrArg some h
                have r93 : A'.tmps[93]? = some (iv (Un : Nat)) := by
                  obtain ⟨x, e, h⟩ := hW.tel 5 93 (by decide) (hnd 5 (by kernel_rfl)) rfl
                  rw [e]; exact congrArg some h
                go_simp
                exact hK _ _ (congrArg iv HQe.out) (FrP.refl _ _) (hW.wi.s.same (by decide))
              · intro L vs A' u hW hL0 hnd K' hK
                have r88 : A'.tmps[88]? = some (v10) := by
                  obtain ⟨x, e, h⟩ := hW.tel 0 88 (by decide) (hnd 0 (by kernel_rfl)) rfl
                  rw [e]; exact congrArg some h
                have r94 : A'.tmps[94]? = some (iv (Q : Nat)) := by
                  obtain ⟨x, e, h⟩ := hW.tel 6 94 (by decide) (hnd 6 (by kernel_rfl)) rfl
                  rw [e]; exact congrArg some h
                obtain ⟨hS1, hS2⟩ := hW.wi.s.old hL0
                have HCL := Lib.hid (HPut.out u v10 (l9 ++ bitsN 16 Bk) 16 Q (Q : Nat) (U.row_keep R10.out hS1) ((O10).out.trans (U.Only.top hS1)) (by have := HLz.out; omega) (by decide) (by decide) HQl.out rfl)
                go_simp
                refine (HCL.out).mono ?_
                rintro _ u' ⟨v', rfl, hr', ho', hg'⟩
                exact hK _ _ (show PutP _ _ _ _ _ from ⟨by omega, v', rfl, hr', (U.Only.top hS1).trans ho'⟩) (fun hlt => by omega) OldP.fin
              · intro L vs A' u hW hL0 hnd K' hK
                obtain ⟨x95, r95, p95⟩ := hW.tel 7 95 (by decide) (hnd 7 (by kernel_rfl)) rfl
                go_simp
                exact hK _ _ p95 (FrP.refl _ _) (hW.wi.s.same (by decide))
              · intro L vs A' u hW hL0 hnd K' hK
                obtain ⟨x87, r87, p87⟩ := hW.tel 8 87 (by decide) (hnd 8 (by kernel_rfl)) rfl
                obtain ⟨h1, v', rfl, h2, h3⟩ := p87
                go_simp
                exact hK _ _ (show RowP _ _ _ _ _ from ⟨h1, h2, h3⟩) (FrP.refl _ _) (hW.wi.s.same (by decide))
              · intro L vs A' u hW hL0 hnd K' hK
                obtain ⟨x87, r87, p87⟩ := hW.tel 8 87 (by decide) (hnd 8 (by kernel_rfl)) rfl
                obtain ⟨h1, v', rfl, h2, h3⟩ := p87
                go_simp
                exact hK _ _ rfl (FrP.refl _ _) (hW.wi.s.same (by decide))
              · intro L vs A' u hW hL0 hnd K' hK
                obtain ⟨x96, r96, p96⟩ := hW.tel 9 96 (by decide) (hnd 9 (by kernel_rfl)) rfl
                go_simp
                exact hK _ _ p96 (FrP.refl _ _) (hW.wi.s.same (by decide))
            case doneR0B =>
              intro L vs u12 hS hP hall
              have e0 : vs 0 = v10 := hP 0 (by decide)
              have e1 : vs 1 = .pointer (some ⟨w.heap.size, 7, none⟩) := hP 1 (by decide)
              have e2 : vs 2 = iv rate := hP 2 (by decide)
              have e3 : vs 3 = .pointer (some ⟨w.heap.size, 2, none⟩) := hP 3 (by decide)
              have e4 : vs 4 = iv (cr : Nat) := hP 4 (by decide)
              have e5 : vs 5 = iv (Un : Nat) := hP 5 (by decide)
              have e6 : vs 6 = iv (Q : Nat) := hP 6 (by decide)
              obtain ⟨_, hr12, ho12⟩ : RowP (w.heap.size + 1) u10 ((l9 ++ bitsN 16 Bk) ++ bitsN 16 Q) (vs 11) u12 := hP 11 (by decide)
              have R12 := Lib.hid hr12
              have O12 := Lib.hid ((O10).out.trans ho12)
              clear hr12 ho12 hS hP hall fr_R0B q1 q2 q3 q4 q5 q6 q7 hw17 HUn hU2 hU3 hU0 hU1
              simp only [putV, List.foldl_cons, List.foldl_nil, List.setIfInBounds_toArray, List.set_cons_zero, List.set_cons_succ]
              clear e0 e1 e2 e3 e4 e5 e6
              generalize vs 11 = v12 at *
              have hLe : ((l9 ++ bitsN 16 Bk) ++ bitsN 16 Q) = L9 := by rw [HL.out]; try simp only [List.append_nil]
              have RL : Hid (U.Bitrow u12 (w.heap.size + 1) v12 L9) := Lib.hid (by rw [← hLe]; exact R12.out)
              have OL : Hid (Only (U.Top (w.heap.size + 1)) W0 u12) := O12
              have PB := Lib.hid (U.bytesRef_any RL.out HPk.out (by omega))
              clear hLe
              go_wp2_with fail
              refine (PB.out).mono ?_
              rintro _ y1 ⟨z1, rfl, hy1, oy1⟩
              have HY1 := Lib.hid hy1
              have OY1 := Lib.hid (OL.out.trans (U.Only.top oy1))
              have PS := Lib.hid (HSum.out y1 z1 (U.owns_src hy1 (by omega) Hlt.out))
              obtain ⟨A1, c1, hz1⟩ := owns_slice hy1
              subst hz1
              have HYs : Hid (u12.heap.size ≤ y1.heap.size) := Lib.hid oy1.size
              clear hy1 oy1 PB
              go_wp2_with fail
              refine (PS.out).mono ?_
              rintro _ y2 ⟨rfl, oy2⟩
              have oz1 := HYs.out
              have oz2 := oy2.size
              have HY2 := Lib.hid (owns_only HY1.out oy2 (fun _ _ e => e))
              have OY2 := Lib.hid (OY1.out.trans (U.Only.top oy2))
              have hS2 : (S : Int) % 256 = (S : Int) := by omega
              have hyz : u12.heap.size ≤ y2.heap.size := by omega
              clear oy2 PS
              go_wp2_with (at_builtin; refine U.wpList_append_bytes rfl (.tmp 100) (.tmp 104) rfl u12.heap.size (.slice A1 BB.length c1) BB.length (BB.map byt) rfl (HY2.out.alloc _) (some ⟨y2.heap.size, 0, none⟩) 1 1 [S] rfl (U.src1 y2 S hS _) (by omega) (by simp; omega) ?fin)
              case fin =>
                intro v3 y3 hown3 hgr3 _
                have OY3 : Only (U.Top (w.heap.size + 1)) W0 y3 := (OY2.out.alloc _).grown hgr3 (fun q e => .inl (by have h5 := (HY2.out.lt q e).1; have h6 := OL.out.size; have h7 := HS0.out; show w.heap.size + 1 ≤ q; omega))
                have hW3 : y3.ownsRow u12.heap.size 5 1 v3 WB.length (WB.map byt) := by rw [hwl, HW.out, List.map_append]; exact hown3
                obtain ⟨A4, c4, hz4⟩ := owns_slice hW3
                subst hz4
                have HW3 := Lib.hid hW3
                have OF := Lib.hid (HEnd.out _ OY3)
                have hwz : WB.length ≤ 140737488355328 := by omega
                clear hown3 hgr3 hW3 OY3
                go_wp2
                go_ret
                exact ⟨_, _, rfl, U.owns_src HW3.out hwz HWl.out, OF.out⟩
          · have d15 : ((cr : Int) == 12) = false := by simp; omega
            have d17 : decide ((12 : Int) < (cr : Int)) = false := by simp; omega
            obtain ⟨q1, q2, q3, q4, q5, q6, q7⟩ := HQ.out u10 O10.out
            have hLe : (l9 ++ bitsN 16 Bk) = L9 := by rw [HL.out]; try simp only [List.append_nil]
            have RL : Hid (U.Bitrow u10 (w.heap.size + 1) v10 L9) := Lib.hid (by rw [← hLe]; exact R10.out)
            have OL : Hid (Only (U.Top (w.heap.size + 1)) W0 u10) := O10
            have PB := Lib.hid (U.bytesRef_any RL.out HPk.out (by omega))
            clear hLe
            go_wp2_with fail
            refine (PB.out).mono ?_
            rintro _ y1 ⟨z1, rfl, hy1, oy1⟩
            have HY1 := Lib.hid hy1
            have OY1 := Lib.hid (OL.out.trans (U.Only.top oy1))
            have PS := Lib.hid (HSum.out y1 z1 (U.owns_src hy1 (by omega) Hlt.out))
            obtain ⟨A1, c1, hz1⟩ := owns_slice hy1
            subst hz1
            have HYs : Hid (u10.heap.size ≤ y1.heap.size) := Lib.hid oy1.size
            clear hy1 oy1 PB
            go_wp2_with fail
            refine (PS.out).mono ?_
            rintro _ y2 ⟨rfl, oy2⟩
            have oz1 := HYs.out
            have oz2 := oy2.size
            have HY2 := Lib.hid (owns_only HY1.out oy2 (fun _ _ e => e))
            have OY2 := Lib.hid (OY1.out.trans (U.Only.top oy2))
            have hS2 : (S : Int) % 256 = (S : Int) := by omega
            have hyz : u10.heap.size ≤ y2.heap.size := by omega
            clear oy2 PS
            go_wp2_with (at_builtin; refine U.wpList_append_bytes rfl (.tmp 100) (.tmp 104) rfl u10.heap.size (.slice A1 BB.length c1) BB.length (BB.map byt) rfl (HY2.out.alloc _) (some ⟨y2.heap.size, 0, none⟩) 1 1 [S] rfl (U.src1 y2 S hS _) (by omega) (by simp; omega) ?fin)
            case fin =>
              intro v3 y3 hown3 hgr3 _
              have OY3 : Only (U.Top (w.heap.size + 1)) W0 y3 := (OY2.out.alloc _).grown hgr3 (fun q e => .inl (by have h5 := (HY2.out.lt q e).1; have h6 := OL.out.size; have h7 := HS0.out; show w.heap.size + 1 ≤ q; omega))
              have hW3 : y3.ownsRow u10.heap.size 5 1 v3 WB.length (WB.map byt) := by rw [hwl, HW.out, List.map_append]; exact hown3
              obtain ⟨A4, c4, hz4⟩ := owns_slice hW3
              subst hz4
              have HW3 := Lib.hid hW3
              have OF := Lib.hid (HEnd.out _ OY3)
              have hwz : WB.length ≤ 140737488355328 := by omega
              clear hown3 hgr3 hW3 OY3
              go_wp2
              go_ret
              exact ⟨_, _, rfl, U.owns_src HW3.out hwz HWl.out, OF.out⟩
        · have d11 : ((cb : Int) == 6) = false := by simp; omega
          have d13 : ((cb : Int) == 7) = false := by simp; omega
          have HLz : Hid (l9.length ≤ 200) := Lib.hid (by omega)
          obtain ⟨q1, q2, q3, q4, q5, q6, q7⟩ := HQ.out u9 O9.out
          rcases HKr with ⟨hcr, hr12, Q, hQ, hQl, rfl⟩ | ⟨hcr, hr12, Un, Q, hU, hU0, hU1, hQ, hQl, rfl⟩ | ⟨hcr, rfl⟩
          · have d15 : ((cr : Int) == 12) = true := by simp; omega
            have d17 : decide ((12 : Int) < (cr : Int)) = false := by simp; omega
            have hw15 := tdiv_wrap (n := rate) (by constructor <;> omega) 1000 (by decide)
            have hw15' : IntKind.i64.wrap (rate.tdiv 1000) = rate.tdiv 1000 := hw15
            obtain ⟨q1, q2, q3, q4, q5, q6, q7⟩ := HQ.out u9 O9.out
            have P10 := Lib.hid (HPut.out u9 v9 l9 8 Q (Q : Nat) R9.out O9.out (by have := HLz.out; omega) (by decide) (by decide) hQl rfl)
            go_wp2_with fail
            refine (P10.out).mono ?_
            rintro _ u11 ⟨v11, rfl, hr11, ho11, _⟩
            have R11 := Lib.hid hr11
            have O11 := Lib.hid (O9.out.trans ho11)
            clear hr11 ho11 P10
            obtain ⟨q1, q2, q3, q4, q5, q6, q7⟩ := HQ.out u11 O11.out
            have hLe : (l9 ++ bitsN 8 Q) = L9 := by rw [HL.out]; try simp only [List.append_nil]
            have RL : Hid (U.Bitrow u11 (w.heap.size + 1) v11 L9) := Lib.hid (by rw [← hLe]; exact R11.out)
            have OL : Hid (Only (U.Top (w.heap.size + 1)) W0 u11) := O11
            have PB := Lib.hid (U.bytesRef_any RL.out HPk.out (by omega))
            clear hLe
            go_wp2_with fail
            refine (PB.out).mono ?_
            rintro _ y1 ⟨z1, rfl, hy1, oy1⟩
            have HY1 := Lib.hid hy1
            have OY1 := Lib.hid (OL.out.trans (U.Only.top oy1))
            have PS := Lib.hid (HSum.out y1 z1 (U.owns_src hy1 (by omega) Hlt.out))
            obtain ⟨A1, c1, hz1⟩ := owns_slice hy1
            subst hz1
            have HYs : Hid (u11.heap.size ≤ y1.heap.size) := Lib.hid oy1.size
            clear hy1 oy1 PB
            go_wp2_with fail
            refine (PS.out).mono ?_
            rintro _ y2 ⟨rfl, oy2⟩
            have oz1 := HYs.out
            have oz2 := oy2.size
            have HY2 := Lib.hid (owns_only HY1.out oy2 (fun _ _ e => e))
            have OY2 := Lib.hid (OY1.out.trans (U.Only.top oy2))
            have hS2 : (S : Int) % 256 = (S : Int) := by omega
            have hyz : u11.heap.size ≤ y2.heap.size := by omega
            clear oy2 PS
            go_wp2_with (at_builtin; refine U.wpList_append_bytes rfl (.tmp 100) (.tmp 104) rfl u11.heap.size (.slice A1 BB.length c1) BB.length (BB.map byt) rfl (HY2.out.alloc _) (some ⟨y2.heap.size, 0, none⟩) 1 1 [S] rfl (U.src1 y2 S hS _) (by omega) (by simp; omega) ?fin)
            case fin =>
              intro v3 y3 hown3 hgr3 _
              have OY3 : Only (U.Top (w.heap.size + 1)) W0 y3 := (OY2.out.alloc _).grown hgr3 (fun q e => .inl (by have h5 := (HY2.out.lt q e).1; have h6 := OL.out.size; have h7 := HS0.out; show w.heap.size + 1 ≤ q; omega))
              have hW3 : y3.ownsRow u11.heap.size 5 1 v3 WB.length (WB.map byt) := by rw [hwl, HW.out, List.map_append]; exact hown3
              obtain ⟨A4, c4, hz4⟩ := owns_slice hW3
              subst hz4
              have HW3 := Lib.hid hW3
              have OF := Lib.hid (HEnd.out _ OY3)
              have hwz : WB.length ≤ 140737488355328 := by omega
              clear hown3 hgr3 hW3 OY3
              go_wp2
              go_ret
              exact ⟨_, _, rfl, U.owns_src HW3.out hwz HWl.out, OF.out⟩
          · have d15 : ((cr : Int) == 12) = false := by simp; omega
            have d17 : (12 : Int) < (cr : Int) := by omega
            have HUn : Hid (∀ u, Calls Tryd.prog 23 #[iv (cr : Nat)] u fun e w' => e = .returned (iv (Un : Nat)) ∧ u = w') := Lib.hid (fun u => by rw [← hU]; exact unit_any _ u)
            have hw17 := tdiv_wrap (n := rate) (by constructor <;> omega) Un hU0
            have HQe : Hid (rate.tdiv (Un : Nat) = (Q : Nat)) := Lib.hid hQ
            have HQl : Hid (Q < 2 ^ 16) := Lib.hid hQl
            have hU2 : ¬ ((Un : Nat) : Int) = 0 := by omega
            have hU3 : ¬ Un = 0 := by omega
            obtain ⟨q1, q2, q3, q4, q5, q6, q7⟩ := HQ.out u9 O9.out
            clear hU hQ hQl
            go_wp2
            have fr_R0C : ∀ j s, j < 12 → (([some 88, some 89, some 90, some 91, some 92, some 93, some 94, some 95, some 87, some 96, some 97, some 4] : List (Option Nat)).all fun d => d != some s) = true → ([some 88, some 89, some 90, some 91, some 92, some 93, some 94, some 95, some 87, some 96, some 97, some 4] : List (Option Nat)).getD j none ≠ some s := by
              intro j s hj ha e
              rw [List.getD_eq_getElem?_getD, List.getElem?_eq_getElem (by exact hj), Option.getD_some] at e
              have := List.all_eq_true.1 ha _ (List.getElem_mem (by exact hj))
              rw [e] at this
              simp at this
            refine region_tel (by kernel_rfl) (fun k0 => ([some 88, some 89, some 90, some 91, some 92, some 93, some 94, some 95, some 87, some 96, some 97, some 4] : List (Option Nat)).getD k0 none) (PL [eqP v9, eqP (.pointer (some ⟨w.heap.size, 7, none⟩)), eqP (iv rate), eqP (.pointer (some ⟨w.heap.size, 2, none⟩)), eqP (iv (cr : Nat)), eqP (iv (Un : Nat)), eqP (iv (Q : Nat)), (PutP (w.heap.size + 1) u9 (l9 ++ bitsN 16 Q)), (PutP (w.heap.size + 1) u9 (l9 ++ bitsN 16 Q)), (RowP (w.heap.size + 1) u9 (l9 ++ bitsN 16 Q)), eqP (iv 0), (RowP (w.heap.size + 1) u9 (l9 ++ bitsN 16 Q))]) (FrP u9) (OldP u9 7) 106 12 rfl (by kernel_rfl) (by kernel_rfl) rfl (by kernel_rfl) (by kernel_rfl) (stab_all ⟨fun _ _ _ h _ => h, fun _ _ _ h _ => h, fun _ _ _ h _ => h, fun _ _ _ h _ => h, fun _ _ _ h _ => h, fun _ _ _ h _ => h, fun _ _ _ h _ => h, fun _ _ _ h ho => h.keep ho, fun _ _ _ h ho => h.keep ho, fun _ _ _ h ho => h.keep ho, fun _ _ _ h _ => h, fun _ _ _ h ho => h.keep ho, trivial⟩) OldP.begin ?stepsR0C (fun vs => [(88, vs 0), (89, vs 1), (90, vs 2), (91, vs 3), (92, vs 4), (93, vs 5), (94, vs 6), (95, vs 7), (87, vs 8), (96, vs 9), (97, vs 10), (4, vs 11)]) (fun vs => rfl) ?doneR0C
            case stepsR0C =>
              refine ⟨?_, ?_, ?_, ?_, ?_, ?_, ?_, ?_, ?_, ?_, ?_, ?_, trivial⟩
              · intro L vs A' u hW hL0 hnd K' hK
                have ny7 : L 7 = false := notYet hW.closed (j := 7) (by rfl) (k := 0) (by kernel_rfl) hL0
                have ny8 : L 8 = false := notYet hW.closed (j := 8) (by rfl) (k := 7) (by kernel_rfl) ny7
                have ny9 : L 9 = false := notYet hW.closed (j := 9) (by rfl) (k := 8) (by kernel_rfl) ny8
                have ny11 : L 11 = false := notYet hW.closed (j := 11) (by rfl) (k := 9) (by kernel_rfl) ny9
                have r4 : A'.tmps[4]? = some (v9) := (hW.fresh 11 4 (by decide) ny11 rfl).trans rfl
                go_simp
                exact hK _ _ rfl (FrP.refl _ _) (hW.wi.s.same (by decide))
              · intro L vs A' u hW hL0 hnd K' hK
                have r1 : A'.tmps[1]? = some (.pointer (some ⟨w.heap.size, 0, none⟩)) := (hW.out 1 (fun j hj => fr_R0C j 1 hj (by kernel_rfl))).trans rfl
                go_simp
                exact hK _ _ rfl (FrP.refl _ _) (hW.wi.s.same (by decide))
              · intro L vs A' u hW hL0 hnd K' hK
                have ny6 : L 6 = false := notYet hW.closed (j := 6) (by rfl) (k := 2) (by kernel_rfl) hL0
                have ny7 : L 7 = false := notYet hW.closed (j := 7) (by rfl) (k := 6) (by kernel_rfl) ny6
                have r89 : A'.tmps[89]? = some (.pointer (some ⟨w.heap.size, 7, none⟩)) := by
                  obtain ⟨x, e, h⟩ := hW.tel 1 89 (by decide) (hnd 1 (by kernel_rfl)) rfl
                  rw [e]; exact congrArg some h
                have hc := U.cell_keep (hW.wi.s.old ny7).1 q7
                go_simp
                exact hK _ _ rfl (FrP.refl _ _) (hW.wi.s.same (by decide))
              · intro L vs A' u hW hL0 hnd K' hK
                have r1 : A'.tmps[1]? = some (.pointer (some ⟨w.heap.size, 0, none⟩)) := (hW.out 1 (fun j hj => fr_R0C j 1 hj (by kernel_rfl))).trans rfl
                go_simp
                exact hK _ _ rfl (FrP.refl _ _) (hW.wi.s.same (by decide))
              · intro L vs A' u hW hL0 hnd K' hK
                have ny5 : L 5 = false := notYet hW.closed (j := 5) (by rfl) (k := 4) (by kernel_rfl) hL0
                have ny6 : L 6 = false := notYet hW.closed (j := 6) (by rfl) (k := 5) (by kernel_rfl) ny5
                have ny7 : L 7 = false := notYet hW.closed (j := 7) (by rfl) (k := 6) (by kernel_rfl) ny6
                have r91 : A'.tmps[91]? = some (.pointer (some ⟨w.heap.size, 2, none⟩)) := by
                  obtain ⟨x, e, h⟩ := hW.tel 3 91 (by decide) (hnd 3 (by kernel_rfl)) rfl
                  rw [e]; exact congrArg some h
                have hc := U.cell_keep (hW.wi.s.old ny7).1 q2
                go_simp
                exact hK _ _ rfl (FrP.refl _ _) (hW.wi.s.same (by decide))
              · intro L vs A' u hW hL0 hnd K' hK
                have r92 : A'.tmps[92]? = some (iv (cr : Nat)) := by
                  obtain ⟨x, e, h⟩ := hW.tel 4 92 (by decide) (hnd 4 (by kernel_rfl)) rfl
                  rw [e]; exact congrArg some h
                have HCL := Lib.hid (HUn.out u)
                go_simp
                refine (HCL.out).mono ?_
                rintro _ u' ⟨rfl, rfl⟩
                exact hK _ _ rfl (FrP.refl _ _) (hW.wi.s.same (by decide))
              · intro L vs A' u hW hL0 hnd K' hK
                have r90 : A'.tmps[90]? = some (iv rate) := by
                  obtain ⟨x, e, h⟩ := hW.tel 2 90 (by decide) (hnd 2 (by kernel_rfl)) rfl
                  rw [e]; exact congrArg some h
                have r93 : A'.tmps[93]? = some (iv (Un : Nat)) := by
                  obtain ⟨x, e, h⟩ := hW.tel 5 93 (by decide) (hnd 5 (by kernel_rfl)) rfl
                  rw [e]; exact congrArg some h
                go_simp
                exact hK _ _ (congrArg iv HQe.out) (FrP.refl _ _) (hW.wi.s.same (by decide))
              · intro L vs A' u hW hL0 hnd K' hK
                have r88 : A'.tmps[88]? = some (v9) := by
                  obtain ⟨x, e, h⟩ := hW.tel 0 88 (by decide) (hnd 0 (by kernel_rfl)) rfl
                  rw [e]; exact congrArg some h
                have r94 : A'.tmps[94]? = some (iv (Q : Nat)) := by
                  obtain ⟨x, e, h⟩ := hW.tel 6 94 (by decide) (hnd 6 (by kernel_rfl)) rfl
                  rw [e]; exact congrArg some h
                obtain ⟨hS1, hS2⟩ := hW.wi.s.old hL0
                have HCL := Lib.hid (HPut.out u v9 l9 16 Q (Q : Nat) (U.row_keep R9.out hS1) ((O9).out.trans (U.Only.top hS1)) (by have := HLz.out; omega) (by decide) (by decide) HQl.out rfl)
                go_simp
                refine (HCL.out).mono ?_
                rintro _ u' ⟨v', rfl, hr', ho', hg'⟩
                exact hK _ _ (show PutP _ _ _ _ _ from ⟨by omega, v', rfl, hr', (U.Only.top hS1).trans ho'⟩) (fun hlt => by omega) OldP.fin
              · intro L vs A' u hW hL0 hnd K' hK
                obtain ⟨x95, r95, p95⟩ := hW.tel 7 95 (by decide) (hnd 7 (by kernel_rfl)) rfl
                go_simp
                exact hK _ _ p95 (FrP.refl _ _) (hW.wi.s.same (by decide))
              · intro L vs A' u hW hL0 hnd K' hK
                obtain ⟨x87, r87, p87⟩ := hW.tel 8 87 (by decide) (hnd 8 (by kernel_rfl)) rfl
                obtain ⟨h1, v', rfl, h2, h3⟩ := p87
                go_simp
                exact hK _ _ (show RowP _ _ _ _ _ from ⟨h1, h2, h3⟩) (FrP.refl _ _) (hW.wi.s.same (by decide))
              · intro L vs A' u hW hL0 hnd K' hK
                obtain ⟨x87, r87, p87⟩ := hW.tel 8 87 (by decide) (hnd 8 (by kernel_rfl)) rfl
                obtain ⟨h1, v', rfl, h2, h3⟩ := p87
                go_simp
                exact hK _ _ rfl (FrP.refl _ _) (hW.wi.s.same (by decide))
              · intro L vs A' u hW hL0 hnd K' hK
                obtain ⟨x96, r96, p96⟩ := hW.tel 9 96 (by decide) (hnd 9 (by kernel_rfl)) rfl
                go_simp
                exact hK _ _ p96 (FrP.refl _ _) (hW.wi.s.same (by decide))
            case doneR0C =>
              intro L vs u12 hS hP hall
              have e0 : vs 0 = v9 := hP 0 (by decide)
              have e1 : vs 1 = .pointer (some ⟨w.heap.size, 7, none⟩) := hP 1 (by decide)
              have e2 : vs 2 = iv rate := hP 2 (by decide)
              have e3 : vs 3 = .pointer (some ⟨w.heap.size, 2, none⟩) := hP 3 (by decide)
              have e4 : vs 4 = iv (cr : Nat) := hP 4 (by decide)
              have e5 : vs 5 = iv (Un : Nat) := hP 5 (by decide)
              have e6 : vs 6 = iv (Q : Nat) := hP 6 (by decide)
              obtain ⟨_, hr12, ho12⟩ : RowP (w.heap.size + 1) u9 (l9 ++ bitsN 16 Q) (vs 11) u12 := hP 11 (by decide)
              have R12 := Lib.hid hr12
              have O12 := Lib.hid ((O9).out.trans ho12)
              clear hr12 ho12 hS hP hall fr_R0C q1 q2 q3 q4 q5 q6 q7 hw17 HUn hU2 hU3 hU0 hU1
              simp only [putV, List.foldl_cons, List.foldl_nil, List.setIfInBounds_toArray, List.set_cons_zero, List.set_cons_succ]
              clear e0 e1 e2 e3 e4 e5 e6
              generalize vs 11 = v12 at *
              have hLe : (l9 ++ bitsN 16 Q) = L9 := by rw [HL.out]; try simp only [List.append_nil]
              have RL : Hid (U.Bitrow u12 (w.heap.size + 1) v12 L9) := Lib.hid (by rw [← hLe]; exact R12.out)
              have OL : Hid (Only (U.Top (w.heap.size + 1)) W0 u12) := O12
              have PB := Lib.hid (U.bytesRef_any RL.out HPk.out (by omega))
              clear hLe
              go_wp2_with fail
              refine (PB.out).mono ?_
              rintro _ y1 ⟨z1, rfl, hy1, oy1⟩
              have HY1 := Lib.hid hy1
              have OY1 := Lib.hid (OL.out.trans (U.Only.top oy1))
              have PS := Lib.hid (HSum.out y1 z1 (U.owns_src hy1 (by omega) Hlt.out))
              obtain ⟨A1, c1, hz1⟩ := owns_slice hy1
              subst hz1
              have HYs : Hid (u12.heap.size ≤ y1.heap.size) := Lib.hid oy1.size
              clear hy1 oy1 PB
              go_wp2_with fail
              refine (PS.out).mono ?_
              rintro _ y2 ⟨rfl, oy2⟩
              have oz1 := HYs.out
              have oz2 := oy2.size
              have HY2 := Lib.hid (owns_only HY1.out oy2 (fun _ _ e => e))
              have OY2 := Lib.hid (OY1.out.trans (U.Only.top oy2))
              have hS2 : (S : Int) % 256 = (S : Int) := by omega
              have hyz : u12.heap.size ≤ y2.heap.size := by omega
              clear oy2 PS
              go_wp2_with (at_builtin; refine U.wpList_append_bytes rfl (.tmp 100) (.tmp 104) rfl u12.heap.size (.slice A1 BB.length c1) BB.length (BB.map byt) rfl (HY2.out.alloc _) (some ⟨y2.heap.size, 0, none⟩) 1 1 [S] rfl (U.src1 y2 S hS _) (by omega) (by simp; omega) ?fin)
              case fin =>
                intro v3 y3 hown3 hgr3 _
                have OY3 : Only (U.Top (w.heap.size + 1)) W0 y3 := (OY2.out.alloc _).grown hgr3 (fun q e => .inl (by have h5 := (HY2.out.lt q e).1; have h6 := OL.out.size; have h7 := HS0.out; show w.heap.size + 1 ≤ q; omega))
                have hW3 : y3.ownsRow u12.heap.size 5 1 v3 WB.length (WB.map byt) := by rw [hwl, HW.out, List.map_append]; exact hown3
                obtain ⟨A4, c4, hz4⟩ := owns_slice hW3
                subst hz4
                have HW3 := Lib.hid hW3
                have OF := Lib.hid (HEnd.out _ OY3)
                have hwz : WB.length ≤ 140737488355328 := by omega
                clear hown3 hgr3 hW3 OY3
                go_wp2
                go_ret
                exact ⟨_, _, rfl, U.owns_src HW3.out hwz HWl.out, OF.out⟩
          · have d15 : ((cr : Int) == 12) = false := by simp; omega
            have d17 : decide ((12 : Int) < (cr : Int)) = false := by simp; omega
            obtain ⟨q1, q2, q3, q4, q5, q6, q7⟩ := HQ.out u9 O9.out
            have hLe : l9 = L9 := by rw [HL.out]; try simp only [List.append_nil]
            have RL : Hid (U.Bitrow u9 (w.heap.size + 1) v9 L9) := Lib.hid (by rw [← hLe]; exact R9.out)
            have OL : Hid (Only (U.Top (w.heap.size + 1)) W0 u9) := O9
            have PB := Lib.hid (U.bytesRef_any RL.out HPk.out (by omega))
            clear hLe
            go_wp2_with fail
            refine (PB.out).mono ?_
            rintro _ y1 ⟨z1, rfl, hy1, oy1⟩
            have HY1 := Lib.hid hy1
            have OY1 := Lib.hid (OL.out.trans (U.Only.top oy1))
            have PS := Lib.hid (HSum.out y1 z1 (U.owns_src hy1 (by omega) Hlt.out))
            obtain ⟨A1, c1, hz1⟩ := owns_slice hy1
            subst hz1
            have HYs : Hid (u9.heap.size ≤ y1.heap.size) := Lib.hid oy1.size
            clear hy1 oy1 PB
            go_wp2_with fail
            refine (PS.out).mono ?_
            rintro _ y2 ⟨rfl, oy2⟩
            have oz1 := HYs.out
            have oz2 := oy2.size
            have HY2 := Lib.hid (owns_only HY1.out oy2 (fun _ _ e => e))
            have OY2 := Lib.hid (OY1.out.trans (U.Only.top oy2))
            have hS2 : (S : Int) % 256 = (S : Int) := by omega
            have hyz : u9.heap.size ≤ y2.heap.size := by omega
            clear oy2 PS
            go_wp2_with (at_builtin; refine U.wpList_append_bytes rfl (.tmp 100) (.tmp 104) rfl u9.heap.size (.slice A1 BB.length c1) BB.length (BB.map byt) rfl (HY2.out.alloc _) (some ⟨y2.heap.size, 0, none⟩) 1 1 [S] rfl (U.src1 y2 S hS _) (by omega) (by simp; omega) ?fin)
            case fin =>
              intro v3 y3 hown3 hgr3 _
              have OY3 : Only (U.Top (w.heap.size + 1)) W0 y3 := (OY2.out.alloc _).grown hgr3 (fun q e => .inl (by have h5 := (HY2.out.lt q e).1; have h6 := OL.out.size; have h7 := HS0.out; show w.heap.size + 1 ≤ q; omega))
              have hW3 : y3.ownsRow u9.heap.size 5 1 v3 WB.length (WB.map byt) := by rw [hwl, HW.out, List.map_append]; exact hown3
              obtain ⟨A4, c4, hz4⟩ := owns_slice hW3
              subst hz4
              have HW3 := Lib.hid hW3
              have OF := Lib.hid (HEnd.out _ OY3)
              have hwz : WB.length ≤ 140737488355328 := by omega
              clear hown3 hgr3 hW3 OY3
              go_wp2
              go_ret
              exact ⟨_, _, rfl, U.owns_src HW3.out hwz HWl.out, OF.out⟩
  · have hsg : sg true = 1 := rfl
    rw [hsg] at HL
    clear hsg
    have O0 : Hid (Only (U.Top (w.heap.size + 1)) W0 W0) := Lib.hid (Only.refl _ _)
    have hz0 : ([] : List Nat).length ≤ 0 := Nat.le_refl _
    have P1 := Lib.hid (HPut.out W0 (.slice none 0 0) [] 16 (65528 + 1) 65529 (World.ownsRow_nil _ _ _ _) O0.out (by have := hz0; omega) (by decide) (by decide) (by decide) (by omega))
    go_wp2_with fail
    refine (P1.out).mono ?_
    rintro _ u1 ⟨v1, rfl, hr1, ho1, _⟩
    have R1 := Lib.hid hr1
    have O1 := Lib.hid ((O0.out).trans ho1)
    clear hr1 ho1 P1
    have hz1 := lenA 16 (65528 + 1) hz0
    clear q0
    obtain ⟨q1, q2, q3, q4, q5, q6, q7⟩ := HQ.out u1 O1.out
    have P2 := Lib.hid (HPut.out u1 v1 ([] ++ bitsN 16 (65528 + 1)) 4 cb (cb : Nat) R1.out O1.out (by have := hz1; omega) (by decide) (by decide) (by have : (2 : Nat) ^ 4 = 16 := rfl; omega) (by omega))
    go_wp2_with fail
    refine (P2.out).mono ?_
    rintro _ u2 ⟨v2, rfl, hr2, ho2, _⟩
    have R2 := Lib.hid hr2
    have O2 := Lib.hid ((O1.out).trans ho2)
    clear hr2 ho2 P2
    have hz2 := lenA 4 cb hz1
    clear q1 q2 q3 q4 q5 q6 q7
    obtain ⟨q1, q2, q3, q4, q5, q6, q7⟩ := HQ.out u2 O2.out
    have P3 := Lib.hid (HPut.out u2 v2 (([] ++ bitsN 16 (65528 + 1)) ++ bitsN 4 cb) 4 cr (cr : Nat) R2.out O2.out (by have := hz2; omega) (by decide) (by decide) (by have : (2 : Nat) ^ 4 = 16 := rfl; omega) (by omega))
    go_wp2_with fail
    refine (P3.out).mono ?_
    rintro _ u3 ⟨v3, rfl, hr3, ho3, _⟩
    have R3 := Lib.hid hr3
    have O3 := Lib.hid ((O2.out).trans ho3)
    clear hr3 ho3 P3
    have hz3 := lenA 4 cr hz2
    clear q1 q2 q3 q4 q5 q6 q7
    obtain ⟨q1, q2, q3, q4, q5, q6, q7⟩ := HQ.out u3 O3.out
    have P4 := Lib.hid (HPut.out u3 v3 ((([] ++ bitsN 16 (65528 + 1)) ++ bitsN 4 cb) ++ bitsN 4 cr) 4 cm (cm : Nat) R3.out O3.out (by have := hz3; omega) (by decide) (by decide) (by have : (2 : Nat) ^ 4 = 16 := rfl; omega) (by omega))
    go_wp2_with fail
    refine (P4.out).mono ?_
    rintro _ u4 ⟨v4, rfl, hr4, ho4, _⟩
    have R4 := Lib.hid hr4
    have O4 := Lib.hid ((O3.out).trans ho4)
    clear hr4 ho4 P4
    have hz4 := lenA 4 cm hz3
    clear q1 q2 q3 q4 q5 q6 q7
    obtain ⟨q1, q2, q3, q4, q5, q6, q7⟩ := HQ.out u4 O4.out
    have P5 := Lib.hid (HPut.out u4 v4 (((([] ++ bitsN 16 (65528 + 1)) ++ bitsN 4 cb) ++ bitsN 4 cr) ++ bitsN 4 cm) 3 cD (cD : Nat) R4.out O4.out (by have := hz4; omega) (by decide) (by decide) (by have : (2 : Nat) ^ 3 = 8 := rfl; omega) (by omega))
    go_wp2_with fail
    refine (P5.out).mono ?_
    rintro _ u5 ⟨v5, rfl, hr5, ho5, _⟩
    have R5 := Lib.hid hr5
    have O5 := Lib.hid ((O4.out).trans ho5)
    clear hr5 ho5 P5
    have hz5 := lenA 3 cD hz4
    clear q1 q2 q3 q4 q5 q6 q7
    go_wp2_with (at_builtin; refine U.wpList_append_bits rfl (.tmp 42) (.tmp 43) rfl (w.heap.size + 1) v5 ((((([] ++ bitsN 16 (65528 + 1)) ++ bitsN 4 cb) ++ bitsN 4 cr) ++ bitsN 4 cm) ++ bitsN 3 cD) rfl (U.bitrow_alloc R5.out _) u5.heap.size 1 1 [0] rfl rfl (U.bit_box _ rfl) ?h63 ?hbase ?rest)
    case h63 => show _ + 1 ≤ 1000000; have := hz5; omega
    case hbase => have h9 := O5.out.size; have h8 := HS0.out; simp; omega
    case rest =>
      intro v6 u6 hown6 hgr6
      have O6 : Hid (Only (U.Top (w.heap.size + 1)) W0 u6) := Lib.hid ((O5.out.alloc _).grown hgr6 (fun q e => .inl (World.ownsRow.lt R5.out q e).1))
      have hl6 : (((((([] ++ bitsN 16 (65528 + 1)) ++ bitsN 4 cb) ++ bitsN 4 cr) ++ bitsN 4 cm) ++ bitsN 3 cD) ++ [0]).length ≤ 32 := by rw [List.length_append]; show _ + 1 ≤ 32; have := hz5; omega
      clear hz0 hz1 hz2 hz3 hz4 hz5
      generalize hl6e : ((((([] ++ bitsN 16 (65528 + 1)) ++ bitsN 4 cb) ++ bitsN 4 cr) ++ bitsN 4 cm) ++ bitsN 3 cD) ++ [0] = l6 at *
      have R6 : Hid (U.Bitrow u6 (w.heap.size + 1) v6 l6) := Lib.hid (by rw [← hl6e]; simpa using hown6)
      obtain ⟨q1, q2, q3, q4, q5, q6, q7⟩ := HQ.out u6 O6.out
      have P7 := Lib.hid (U.putRef_any (w := u6) nn (by omega))
      clear hown6 hgr6 hl6e
      go_wp2_with fail
      refine (P7.out).mono ?_
      rintro _ u7 ⟨v7, rfl, hs7, ho7⟩
      have P8 := Lib.hid (U.bitsRef_any hs7 (by rw [U.cd_len]; have := U.szOf_bd nn; omega))
      have O7 := Lib.hid (O6.out.trans (U.Only.top ho7))
      have R7 := Lib.hid (U.row_keep R6.out ho7)
      clear hs7 ho7 P7 q1 q2 q3 q4 q5 q6 q7
      go_wp2_with fail
      refine (P8.out).mono ?_
      rintro _ u8 ⟨v8, rfl, hr8, ho8⟩
      have O8 := Lib.hid (O7.out.trans (U.Only.top ho8))
      have R8 := Lib.hid (U.row_keep R7.out ho8)
      have RM : Hid (U.Bitrow u8 u7.heap.size v8 (bitsOf (U.cd nn))) := Lib.hid (by unfold U.Bitrow; rw [bitsOf_len]; exact hr8)
      have hcl := U.cd_len nn
      have hcz := U.szOf_bd nn
      have hml : (bitsOf (U.cd nn)).length = 8 * U.szOf nn := by rw [bitsOf_len, hcl]
      have hz8 := O8.out.size
      clear hr8 ho8 P8 hcl
      generalize bitsOf (U.cd nn) = M8 at *
      have hj1 : 0 < M8.length := by omega
      have hj2 : l6.length + M8.length ≤ 1000000 := by omega
      have hj3 : w.heap.size + 1 ≤ u8.heap.size := by have := HS0.out; omega
      go_wp2_with (at_builtin; refine U.wpList_join_bits rfl (.tmp 45) (.tmp 49) rfl (w.heap.size + 1) u7.heap.size v6 v8 l6 M8 rfl rfl R8.out RM.out hj1 hj2 hj3 ?join)
      case join =>
        intro v9 u9 hr9 ho9
        have O9 := Lib.hid (O8.out.trans ho9)
        have hl9 : (l6 ++ M8).length ≤ 100 := by rw [List.length_append]; omega
        have R9 := Lib.hid hr9
        generalize l6 ++ M8 = l9 at *
        clear hr9 ho9
        rcases HKb with ⟨hcb, Bk, hBk, hBl, rfl⟩ | ⟨hcb, Bk, hBk, hBl, rfl⟩ | ⟨hcb6, hcb7, rfl⟩
        · have d11 : ((cb : Int) == 6) = true := by simp; omega
          have d13 : ((cb : Int) == 7) = false := by simp; omega
          obtain ⟨q1, q2, q3, q4, q5, q6, q7⟩ := HQ.out u9 O9.out
          have hblk1 : 1 ≤ blk := by omega
          have hblk2 : blk ≤ 65536 := by omega
          have P9 := Lib.hid (HPut.out u9 v9 l9 8 Bk (Bk : Nat) R9.out O9.out (by omega) (by decide) (by decide) hBl rfl)
          go_wp2_with fail
          refine (P9.out).mono ?_
          rintro _ u10 ⟨v10, rfl, hr10, ho10, _⟩
          have R10 := Lib.hid hr10
          have O10 := Lib.hid (O9.out.trans ho10)
          have HLz : Hid ((l9 ++ bitsN 8 Bk).length ≤ 200) := Lib.hid (by rw [List.length_append, bitsN_len]; omega)
          clear hr10 ho10 P9 q1 q2 q3 q4 q5 q6 q7 hBk hblk1 hblk2 hBl
          obtain ⟨q1, q2, q3, q4, q5, q6, q7⟩ := HQ.out u10 O10.out
          rcases HKr with ⟨hcr, hr12, Q, hQ, hQl, rfl⟩ | ⟨hcr, hr12, Un, Q, hU, hU0, hU1, hQ, hQl, rfl⟩ | ⟨hcr, rfl⟩
          · have d15 : ((cr : Int) == 12) = true := by simp; omega
            have d17 : decide ((12 : Int) < (cr : Int)) = false := by simp; omega
            have hw15 := tdiv_wrap (n := rate) (by constructor <;> omega) 1000 (by decide)
            have hw15' : IntKind.i64.wrap (rate.tdiv 1000) = rate.tdiv 1000 := hw15
            obtain ⟨q1, q2, q3, q4, q5, q6, q7⟩ := HQ.out u10 O10.out
            have P10 := Lib.hid (HPut.out u10 v10 (l9 ++ bitsN 8 Bk) 8 Q (Q : Nat) R10.out O10.out (by have := HLz.out; omega) (by decide) (by decide) hQl rfl)
            go_wp2_with fail
            refine (P10.out).mono ?_
            rintro _ u11 ⟨v11, rfl, hr11, ho11, _⟩
            have R11 := Lib.hid hr11
            have O11 := Lib.hid (O10.out.trans ho11)
            clear hr11 ho11 P10
            obtain ⟨q1, q2, q3, q4, q5, q6, q7⟩ := HQ.out u11 O11.out
            have hLe : ((l9 ++ bitsN 8 Bk) ++ bitsN 8 Q) = L9 := by rw [HL.out]; try simp only [List.append_nil]
            have RL : Hid (U.Bitrow u11 (w.heap.size + 1) v11 L9) := Lib.hid (by rw [← hLe]; exact R11.out)
            have OL : Hid (Only (U.Top (w.heap.size + 1)) W0 u11) := O11
            have PB := Lib.hid (U.bytesRef_any RL.out HPk.out (by omega))
            clear hLe
            go_wp2_with fail
            refine (PB.out).mono ?_
            rintro _ y1 ⟨z1, rfl, hy1, oy1⟩
            have HY1 := Lib.hid hy1
            have OY1 := Lib.hid (OL.out.trans (U.Only.top oy1))
            have PS := Lib.hid (HSum.out y1 z1 (U.owns_src hy1 (by omega) Hlt.out))
            obtain ⟨A1, c1, hz1⟩ := owns_slice hy1
            subst hz1
            have HYs : Hid (u11.heap.size ≤ y1.heap.size) := Lib.hid oy1.size
            clear hy1 oy1 PB
            go_wp2_with fail
            refine (PS.out).mono ?_
            rintro _ y2 ⟨rfl, oy2⟩
            have oz1 := HYs.out
            have oz2 := oy2.size
            have HY2 := Lib.hid (owns_only HY1.out oy2 (fun _ _ e => e))
            have OY2 := Lib.hid (OY1.out.trans (U.Only.top oy2))
            have hS2 : (S : Int) % 256 = (S : Int) := by omega
            have hyz : u11.heap.size ≤ y2.heap.size := by omega
            clear oy2 PS
            go_wp2_with (at_builtin; refine U.wpList_append_bytes rfl (.tmp 100) (.tmp 104) rfl u11.heap.size (.slice A1 BB.length c1) BB.length (BB.map byt) rfl (HY2.out.alloc _) (some ⟨y2.heap.size, 0, none⟩) 1 1 [S] rfl (U.src1 y2 S hS _) (by omega) (by simp; omega) ?fin)
            case fin =>
              intro v3 y3 hown3 hgr3 _
              have OY3 : Only (U.Top (w.heap.size + 1)) W0 y3 := (OY2.out.alloc _).grown hgr3 (fun q e => .inl (by have h5 := (HY2.out.lt q e).1; have h6 := OL.out.size; have h7 := HS0.out; show w.heap.size + 1 ≤ q; omega))
              have hW3 : y3.ownsRow u11.heap.size 5 1 v3 WB.length (WB.map byt) := by rw [hwl, HW.out, List.map_append]; exact hown3
              obtain ⟨A4, c4, hz4⟩ := owns_slice hW3
              subst hz4
              have HW3 := Lib.hid hW3
              have OF := Lib.hid (HEnd.out _ OY3)
              have hwz : WB.length ≤ 140737488355328 := by omega
              clear hown3 hgr3 hW3 OY3
              go_wp2
              go_ret
              exact ⟨_, _, rfl, U.owns_src HW3.out hwz HWl.out, OF.out⟩
          · have d15 : ((cr : Int) == 12) = false := by simp; omega
            have d17 : (12 : Int) < (cr : Int) := by omega
            have HUn : Hid (∀ u, Calls Tryd.prog 23 #[iv (cr : Nat)] u fun e w' => e = .returned (iv (Un : Nat)) ∧ u = w') := Lib.hid (fun u => by rw [← hU]; exact unit_any _ u)
            have hw17 := tdiv_wrap (n := rate) (by constructor <;> omega) Un hU0
            have HQe : Hid (rate.tdiv (Un : Nat) = (Q : Nat)) := Lib.hid hQ
            have HQl : Hid (Q < 2 ^ 16) := Lib.hid hQl
            have hU2 : ¬ ((Un : Nat) : Int) = 0 := by omega
            have hU3 : ¬ Un = 0 := by omega
            obtain ⟨q1, q2, q3, q4, q5, q6, q7⟩ := HQ.out u10 O10.out
            clear hU hQ hQl
            go_wp2
            have fr_R1A : ∀ j s, j < 12 → (([some 88, some 89, some 90, some 91, some 92, some 93, some 94, some 95, some 87, some 96, some 97, some 4] : List (Option Nat)).all fun d => d != some s) = true → ([some 88, some 89, some 90, some 91, some 92, some 93, some 94, some 95, some 87, some 96, some 97, some 4] : List (Option Nat)).getD j none ≠ some s := by
              intro j s hj ha e
              rw [List.getD_eq_getElem?_getD, List.getElem?_eq_getElem (by exact hj), Option.getD_some] at e
              have := List.all_eq_true.1 ha _ (List.getElem_mem (by exact hj))
              rw [e] at this
              simp at this
            refine region_tel (by kernel_rfl) (fun k0 => ([some 88, some 89, some 90, some 91, some 92, some 93, some 94, some 95, some 87, some 96, some 97, some 4] : List (Option Nat)).getD k0 none) (PL [eqP v10, eqP (.pointer (some ⟨w.heap.size, 7, none⟩)), eqP (iv rate), eqP (.pointer (some ⟨w.heap.size, 2, none⟩)), eqP (iv (cr : Nat)), eqP (iv (Un : Nat)), eqP (iv (Q : Nat)), (PutP (w.heap.size + 1) u10 ((l9 ++ bitsN 8 Bk) ++ bitsN 16 Q)), (PutP (w.heap.size + 1) u10 ((l9 ++ bitsN 8 Bk) ++ bitsN 16 Q)), (RowP (w.heap.size + 1) u10 ((l9 ++ bitsN 8 Bk) ++ bitsN 16 Q)), eqP (iv 0), (RowP (w.heap.size + 1) u10 ((l9 ++ bitsN 8 Bk) ++ bitsN 16 Q))]) (FrP u10) (OldP u10 7) 106 12 rfl (by kernel_rfl) (by kernel_rfl) rfl (by kernel_rfl) (by kernel_rfl) (stab_all ⟨fun _ _ _ h _ => h, fun _ _ _ h _ => h, fun _ _ _ h _ => h, fun _ _ _ h _ => h, fun _ _ _ h _ => h, fun _ _ _ h _ => h, fun _ _ _ h _ => h, fun _ _ _ h ho => h.keep ho, fun _ _ _ h ho => h.keep ho, fun _ _ _ h ho => h.keep ho, fun _ _ _ h _ => h, fun _ _ _ h ho => h.keep ho, trivial⟩) OldP.begin ?stepsR1A (fun vs => [(88, vs 0), (89, vs 1), (90, vs 2), (91, vs 3), (92, vs 4), (93, vs 5), (94, vs 6), (95, vs 7), (87, vs 8), (96, vs 9), (97, vs 10), (4, vs 11)]) (fun vs => rfl) ?doneR1A
            case stepsR1A =>
              refine ⟨?_, ?_, ?_, ?_, ?_, ?_, ?_, ?_, ?_, ?_, ?_, ?_, trivial⟩
              · intro L vs A' u hW hL0 hnd K' hK
                have ny7 : L 7 = false := notYet hW.closed (j := 7) (by rfl) (k := 0) (by kernel_rfl) hL0
                have ny8 : L 8 = false := notYet hW.closed (j := 8) (by rfl) (k := 7) (by kernel_rfl) ny7
                have ny9 : L 9 = false := notYet hW.closed (j := 9) (by rfl) (k := 8) (by kernel_rfl) ny8
                have ny11 : L 11 = false := notYet hW.closed (j := 11) (by rfl) (k := 9) (by kernel_rfl) ny9
                have r4 : A'.tmps[4]? = some (v10) := (hW.fresh 11 4 (by decide) ny11 rfl).trans rfl
                go_simp
                exact hK _ _ rfl (FrP.refl _ _) (hW.wi.s.same (by decide))
              · intro L vs A' u hW hL0 hnd K' hK
                have r1 : A'.tmps[1]? = some (.pointer (some ⟨w.heap.size, 0, none⟩)) := (hW.out 1 (fun j hj => fr_R1A j 1 hj (by kernel_rfl))).trans rfl
                go_simp
                exact hK _ _ rfl (FrP.refl _ _) (hW.wi.s.same (by decide))
              · intro L vs A' u hW hL0 hnd K' hK
                have ny6 : L 6 = false := notYet hW.closed (j := 6) (by rfl) (k := 2) (by kernel_rfl) hL0
                have ny7 : L 7 = false := notYet hW.closed (j := 7) (by rfl) (k := 6) (by kernel_rfl) ny6
                have r89 : A'.tmps[89]? = some (.pointer (some ⟨w.heap.size, 7, none⟩)) := by
                  obtain ⟨x, e, h⟩ := hW.tel 1 89 (by decide) (hnd 1 (by kernel_rfl)) rfl
                  rw [e]; exact congrArg some h
                have hc := U.cell_keep (hW.wi.s.old ny7).1 q7
                go_simp
                exact hK _ _ rfl (FrP.refl _ _) (hW.wi.s.same (by decide))
              · intro L vs A' u hW hL0 hnd K' hK
                have r1 : A'.tmps[1]? = some (.pointer (some ⟨w.heap.size, 0, none⟩)) := (hW.out 1 (fun j hj => fr_R1A j 1 hj (by kernel_rfl))).trans rfl
                go_simp
                exact hK _ _ rfl (FrP.refl _ _) (hW.wi.s.same (by decide))
              · intro L vs A' u hW hL0 hnd K' hK
                have ny5 : L 5 = false := notYet hW.closed (j := 5) (by rfl) (k := 4) (by kernel_rfl) hL0
                have ny6 : L 6 = false := notYet hW.closed (j := 6) (by rfl) (k := 5) (by kernel_rfl) ny5
                have ny7 : L 7 = false := notYet hW.closed (j := 7) (by rfl) (k := 6) (by kernel_rfl) ny6
                have r91 : A'.tmps[91]? = some (.pointer (some ⟨w.heap.size, 2, none⟩)) := by
                  obtain ⟨x, e, h⟩ := hW.tel 3 91 (by decide) (hnd 3 (by kernel_rfl)) rfl
                  rw [e]; exact congrArg some h
                have hc := U.cell_keep (hW.wi.s.old ny7).1 q2
                go_simp
                exact hK _ _ rfl (FrP.refl _ _) (hW.wi.s.same (by decide))
              · intro L vs A' u hW hL0 hnd K' hK
                have r92 : A'.tmps[92]? = some (iv (cr : Nat)) := by
                  obtain ⟨x, e, h⟩ := hW.tel 4 92 (by decide) (hnd 4 (by kernel_rfl)) rfl
                  rw [e]; exact congrArg some h
                have HCL := Lib.hid (HUn.out u)
                go_simp
                refine (HCL.out).mono ?_
                rintro _ u' ⟨rfl, rfl⟩
                exact hK _ _ rfl (FrP.refl _ _) (hW.wi.s.same (by decide))
              · intro L vs A' u hW hL0 hnd K' hK
                have r90 : A'.tmps[90]? = some (iv rate) := by
                  obtain ⟨x, e, h⟩ := hW.tel 2 90 (by decide) (hnd 2 (by kernel_rfl)) rfl
                  rw [e]; exact congrArg some h
                have r93 : A'.tmps[93]? = some (iv (Un : Nat)) := by
                  obtain ⟨x, e, h⟩ := hW.tel 5 93 (by decide) (hnd 5 (by kernel_rfl)) rfl
                  rw [e]; exact congrArg some h
                go_simp
                exact hK _ _ (congrArg iv HQe.out) (FrP.refl _ _) (hW.wi.s.same (by decide))
              · intro L vs A' u hW hL0 hnd K' hK
                have r88 : A'.tmps[88]? = some (v10) := by
                  obtain ⟨x, e, h⟩ := hW.tel 0 88 (by decide) (hnd 0 (by kernel_rfl)) rfl
                  rw [e]; exact congrArg some h
                have r94 : A'.tmps[94]? = some (iv (Q : Nat)) := by
                  obtain ⟨x, e, h⟩ := hW.tel 6 94 (by decide) (hnd 6 (by kernel_rfl)) rfl
                  rw [e]; exact congrArg some h
                obtain ⟨hS1, hS2⟩ := hW.wi.s.old hL0
                have HCL := Lib.hid (HPut.out u v10 (l9 ++ bitsN 8 Bk) 16 Q (Q : Nat) (U.row_keep R10.out hS1) ((O10).out.trans (U.Only.top hS1)) (by have := HLz.out; omega) (by decide) (by decide) HQl.out rfl)
                go_simp
                refine (HCL.out).mono ?_
                rintro _ u' ⟨v', rfl, hr', ho', hg'⟩
                exact hK _ _ (show PutP _ _ _ _ _ from ⟨by omega, v', rfl, hr', (U.Only.top hS1).trans ho'⟩) (fun hlt => by omega) OldP.fin
              · intro L vs A' u hW hL0 hnd K' hK
                obtain ⟨x95, r95, p95⟩ := hW.tel 7 95 (by decide) (hnd 7 (by kernel_rfl)) rfl
                go_simp
                exact hK _ _ p95 (FrP.refl _ _) (hW.wi.s.same (by decide))
              · intro L vs A' u hW hL0 hnd K' hK
                obtain ⟨x87, r87, p87⟩ := hW.tel 8 87 (by decide) (hnd 8 (by kernel_rfl)) rfl
                obtain ⟨h1, v', rfl, h2, h3⟩ := p87
                go_simp
                exact hK _ _ (show RowP _ _ _ _ _ from ⟨h1, h2, h3⟩) (FrP.refl _ _) (hW.wi.s.same (by decide))
              · intro L vs A' u hW hL0 hnd K' hK
                obtain ⟨x87, r87, p87⟩ := hW.tel 8 87 (by decide) (hnd 8 (by kernel_rfl)) rfl
                obtain ⟨h1, v', rfl, h2, h3⟩ := p87
                go_simp
                exact hK _ _ rfl (FrP.refl _ _) (hW.wi.s.same (by decide))
              · intro L vs A' u hW hL0 hnd K' hK
                obtain ⟨x96, r96, p96⟩ := hW.tel 9 96 (by decide) (hnd 9 (by kernel_rfl)) rfl
                go_simp
                exact hK _ _ p96 (FrP.refl _ _) (hW.wi.s.same (by decide))
            case doneR1A =>
              intro L vs u12 hS hP hall
              have e0 : vs 0 = v10 := hP 0 (by decide)
              have e1 : vs 1 = .pointer (some ⟨w.heap.size, 7, none⟩) := hP 1 (by decide)
              have e2 : vs 2 = iv rate := hP 2 (by decide)
              have e3 : vs 3 = .pointer (some ⟨w.heap.size, 2, none⟩) := hP 3 (by decide)
              have e4 : vs 4 = iv (cr : Nat) := hP 4 (by decide)
              have e5 : vs 5 = iv (Un : Nat) := hP 5 (by decide)
              have e6 : vs 6 = iv (Q : Nat) := hP 6 (by decide)
              obtain ⟨_, hr12, ho12⟩ : RowP (w.heap.size + 1) u10 ((l9 ++ bitsN 8 Bk) ++ bitsN 16 Q) (vs 11) u12 := hP 11 (by decide)
              have R12 := Lib.hid hr12
              have O12 := Lib.hid ((O10).out.trans ho12)
              clear hr12 ho12 hS hP hall fr_R1A q1 q2 q3 q4 q5 q6 q7 hw17 HUn hU2 hU3 hU0 hU1
              simp only [putV, List.foldl_cons, List.foldl_nil, List.setIfInBounds_toArray, List.set_cons_zero, List.set_cons_succ]
              clear e0 e1 e2 e3 e4 e5 e6
              generalize vs 11 = v12 at *
              have hLe : ((l9 ++ bitsN 8 Bk) ++ bitsN 16 Q) = L9 := by rw [HL.out]; try simp only [List.append_nil]
              have RL : Hid (U.Bitrow u12 (w.heap.size + 1) v12 L9) := Lib.hid (by rw [← hLe]; exact R12.out)
              have OL : Hid (Only (U.Top (w.heap.size + 1)) W0 u12) := O12
              have PB := Lib.hid (U.bytesRef_any RL.out HPk.out (by omega))
              clear hLe
              go_wp2_with fail
              refine (PB.out).mono ?_
              rintro _ y1 ⟨z1, rfl, hy1, oy1⟩
              have HY1 := Lib.hid hy1
              have OY1 := Lib.hid (OL.out.trans (U.Only.top oy1))
              have PS := Lib.hid (HSum.out y1 z1 (U.owns_src hy1 (by omega) Hlt.out))
              obtain ⟨A1, c1, hz1⟩ := owns_slice hy1
              subst hz1
              have HYs : Hid (u12.heap.size ≤ y1.heap.size) := Lib.hid oy1.size
              clear hy1 oy1 PB
              go_wp2_with fail
              refine (PS.out).mono ?_
              rintro _ y2 ⟨rfl, oy2⟩
              have oz1 := HYs.out
              have oz2 := oy2.size
              have HY2 := Lib.hid (owns_only HY1.out oy2 (fun _ _ e => e))
              have OY2 := Lib.hid (OY1.out.trans (U.Only.top oy2))
              have hS2 : (S : Int) % 256 = (S : Int) := by omega
              have hyz : u12.heap.size ≤ y2.heap.size := by omega
              clear oy2 PS
              go_wp2_with (at_builtin; refine U.wpList_append_bytes rfl (.tmp 100) (.tmp 104) rfl u12.heap.size (.slice A1 BB.length c1) BB.length (BB.map byt) rfl (HY2.out.alloc _) (some ⟨y2.heap.size, 0, none⟩) 1 1 [S] rfl (U.src1 y2 S hS _) (by omega) (by simp; omega) ?fin)
              case fin =>
                intro v3 y3 hown3 hgr3 _
                have OY3 : Only (U.Top (w.heap.size + 1)) W0 y3 := (OY2.out.alloc _).grown hgr3 (fun q e => .inl (by have h5 := (HY2.out.lt q e).1; have h6 := OL.out.size; have h7 := HS0.out; show w.heap.size + 1 ≤ q; omega))
                have hW3 : y3.ownsRow u12.heap.size 5 1 v3 WB.length (WB.map byt) := by rw [hwl, HW.out, List.map_append]; exact hown3
                obtain ⟨A4, c4, hz4⟩ := owns_slice hW3
                subst hz4
                have HW3 := Lib.hid hW3
                have OF := Lib.hid (HEnd.out _ OY3)
                have hwz : WB.length ≤ 140737488355328 := by omega
                clear hown3 hgr3 hW3 OY3
                go_wp2
                go_ret
                exact ⟨_, _, rfl, U.owns_src HW3.out hwz HWl.out, OF.out⟩
          · have d15 : ((cr : Int) == 12) = false := by simp; omega
            have d17 : decide ((12 : Int) < (cr : Int)) = false := by simp; omega
            obtain ⟨q1, q2, q3, q4, q5, q6, q7⟩ := HQ.out u10 O10.out
            have hLe : (l9 ++ bitsN 8 Bk) = L9 := by rw [HL.out]; try simp only [List.append_nil]
            have RL : Hid (U.Bitrow u10 (w.heap.size + 1) v10 L9) := Lib.hid (by rw [← hLe]; exact R10.out)
            have OL : Hid (Only (U.Top (w.heap.size + 1)) W0 u10) := O10
            have PB := Lib.hid (U.bytesRef_any RL.out HPk.out (by omega))
            clear hLe
            go_wp2_with fail
            refine (PB.out).mono ?_
            rintro _ y1 ⟨z1, rfl, hy1, oy1⟩
            have HY1 := Lib.hid hy1
            have OY1 := Lib.hid (OL.out.trans (U.Only.top oy1))
            have PS := Lib.hid (HSum.out y1 z1 (U.owns_src hy1 (by omega) Hlt.out))
            obtain ⟨A1, c1, hz1⟩ := owns_slice hy1
            subst hz1
            have HYs : Hid (u10.heap.size ≤ y1.heap.size) := Lib.hid oy1.size
            clear hy1 oy1 PB
            go_wp2_with fail
            refine (PS.out).mono ?_
            rintro _ y2 ⟨rfl, oy2⟩
            have oz1 := HYs.out
            have oz2 := oy2.size
            have HY2 := Lib.hid (owns_only HY1.out oy2 (fun _ _ e => e))
            have OY2 := Lib.hid (OY1.out.trans (U.Only.top oy2))
            have hS2 : (S : Int) % 256 = (S : Int) := by omega
            have hyz : u10.heap.size ≤ y2.heap.size := by omega
            clear oy2 PS
            go_wp2_with (at_builtin; refine U.wpList_append_bytes rfl (.tmp 100) (.tmp 104) rfl u10.heap.size (.slice A1 BB.length c1) BB.length (BB.map byt) rfl (HY2.out.alloc _) (some ⟨y2.heap.size, 0, none⟩) 1 1 [S] rfl (U.src1 y2 S hS _) (by omega) (by simp; omega) ?fin)
            case fin =>
              intro v3 y3 hown3 hgr3 _
              have OY3 : Only (U.Top (w.heap.size + 1)) W0 y3 := (OY2.out.alloc _).grown hgr3 (fun q e => .inl (by have h5 := (HY2.out.lt q e).1; have h6 := OL.out.size; have h7 := HS0.out; show w.heap.size + 1 ≤ q; omega))
              have hW3 : y3.ownsRow u10.heap.size 5 1 v3 WB.length (WB.map byt) := by rw [hwl, HW.out, List.map_append]; exact hown3
              obtain ⟨A4, c4, hz4⟩ := owns_slice hW3
              subst hz4
              have HW3 := Lib.hid hW3
              have OF := Lib.hid (HEnd.out _ OY3)
              have hwz : WB.length ≤ 140737488355328 := by omega
              clear hown3 hgr3 hW3 OY3
              go_wp2
              go_ret
              exact ⟨_, _, rfl, U.owns_src HW3.out hwz HWl.out, OF.out⟩
        · have d11 : ((cb : Int) == 6) = false := by simp; omega
          have d13 : ((cb : Int) == 7) = true := by simp; omega
          obtain ⟨q1, q2, q3, q4, q5, q6, q7⟩ := HQ.out u9 O9.out
          have hblk1 : 1 ≤ blk := by omega
          have hblk2 : blk ≤ 65536 := by omega
          have P9 := Lib.hid (HPut.out u9 v9 l9 16 Bk (Bk : Nat) R9.out O9.out (by omega) (by decide) (by decide) hBl rfl)
          go_wp2_with fail
          refine (P9.out).mono ?_
          rintro _ u10 ⟨v10, rfl, hr10, ho10, _⟩
          have R10 := Lib.hid hr10
          have O10 := Lib.hid (O9.out.trans ho10)
          have HLz : Hid ((l9 ++ bitsN 16 Bk).length ≤ 200) := Lib.hid (by rw [List.length_append, bitsN_len]; omega)
          clear hr10 ho10 P9 q1 q2 q3 q4 q5 q6 q7 hBk hblk1 hblk2 hBl
          rcases HKr with ⟨hcr, hr12, Q, hQ, hQl, rfl⟩ | ⟨hcr, hr12, Un, Q, hU, hU0, hU1, hQ, hQl, rfl⟩ | ⟨hcr, rfl⟩
          · have d15 : ((cr : Int) == 12) = true := by simp; omega
            have d17 : decide ((12 : Int) < (cr : Int)) = false := by simp; omega
            have hw15 := tdiv_wrap (n := rate) (by constructor <;> omega) 1000 (by decide)
            have hw15' : IntKind.i64.wrap (rate.tdiv 1000) = rate.tdiv 1000 := hw15
            obtain ⟨q1, q2, q3, q4, q5, q6, q7⟩ := HQ.out u10 O10.out
            have P10 := Lib.hid (HPut.out u10 v10 (l9 ++ bitsN 16 Bk) 8 Q (Q : Nat) R10.out O10.out (by have := HLz.out; omega) (by decide) (by decide) hQl rfl)
            go_wp2_with fail
            refine (P10.out).mono ?_
            rintro _ u11 ⟨v11, rfl, hr11, ho11, _⟩
            have R11 := Lib.hid hr11
            have O11 := Lib.hid (O10.out.trans ho11)
            clear hr11 ho11 P10
            obtain ⟨q1, q2, q3, q4, q5, q6, q7⟩ := HQ.out u11 O11.out
            have hLe : ((l9 ++ bitsN 16 Bk) ++ bitsN 8 Q) = L9 := by rw [HL.out]; try simp only [List.append_nil]
            have RL : Hid (U.Bitrow u11 (w.heap.size + 1) v11 L9) := Lib.hid (by rw [← hLe]; exact R11.out)
            have OL : Hid (Only (U.Top (w.heap.size + 1)) W0 u11) := O11
            have PB := Lib.hid (U.bytesRef_any RL.out HPk.out (by omega))
            clear hLe
            go_wp2_with fail
            refine (PB.out).mono ?_
            rintro _ y1 ⟨z1, rfl, hy1, oy1⟩
            have HY1 := Lib.hid hy1
            have OY1 := Lib.hid (OL.out.trans (U.Only.top oy1))
            have PS := Lib.hid (HSum.out y1 z1 (U.owns_src hy1 (by omega) Hlt.out))
            obtain ⟨A1, c1, hz1⟩ := owns_slice hy1
            subst hz1
            have HYs : Hid (u11.heap.size ≤ y1.heap.size) := Lib.hid oy1.size
            clear hy1 oy1 PB
            go_wp2_with fail
            refine (PS.out).mono ?_
            rintro _ y2 ⟨rfl, oy2⟩
            have oz1 := HYs.out
            have oz2 := oy2.size
            have HY2 := Lib.hid (owns_only HY1.out oy2 (fun _ _ e => e))
            have OY2 := Lib.hid (OY1.out.trans (U.Only.top oy2))
            have hS2 : (S : Int) % 256 = (S : Int) := by omega
            have hyz : u11.heap.size ≤ y2.heap.size := by omega
            clear oy2 PS
            go_wp2_with (at_builtin; refine U.wpList_append_bytes rfl (.tmp 100) (.tmp 104) rfl u11.heap.size (.slice A1 BB.length c1) BB.length (BB.map byt) rfl (HY2.out.alloc _) (some ⟨y2.heap.size, 0, none⟩) 1 1 [S] rfl (U.src1 y2 S hS _) (by omega) (by simp; omega) ?fin)
            case fin =>
              intro v3 y3 hown3 hgr3 _
              have OY3 : Only (U.Top (w.heap.size + 1)) W0 y3 := (OY2.out.alloc _).grown hgr3 (fun q e => .inl (by have h5 := (HY2.out.lt q e).1; have h6 := OL.out.size; have h7 := HS0.out; show w.heap.size + 1 ≤ q; omega))
              have hW3 : y3.ownsRow u11.heap.size 5 1 v3 WB.length (WB.map byt) := by rw [hwl, HW.out, List.map_append]; exact hown3
              obtain ⟨A4, c4, hz4⟩ := owns_slice hW3
              subst hz4
              have HW3 := Lib.hid hW3
              have OF := Lib.hid (HEnd.out _ OY3)
              have hwz : WB.length ≤ 140737488355328 := by omega
              clear hown3 hgr3 hW3 OY3
              go_wp2
              go_ret
              exact ⟨_, _, rfl, U.owns_src HW3.out hwz HWl.out, OF.out⟩
          · have d15 : ((cr : Int) == 12) = false := by simp; omega
            have d17 : (12 : Int) < (cr : Int) := by omega
            have HUn : Hid (∀ u, Calls Tryd.prog 23 #[iv (cr : Nat)] u fun e w' => e = .returned (iv (Un : Nat)) ∧ u = w') := Lib.hid (fun u => by rw [← hU]; exact unit_any _ u)
            have hw17 := tdiv_wrap (n := rate) (by constructor <;> omega) Un hU0
            have HQe : Hid (rate.tdiv (Un : Nat) = (Q : Nat)) := Lib.hid hQ
            have HQl : Hid (Q < 2 ^ 16) := Lib.hid hQl
            have hU2 : ¬ ((Un : Nat) : Int) = 0 := by omega
            have hU3 : ¬ Un = 0 := by omega
            obtain ⟨q1, q2, q3, q4, q5, q6, q7⟩ := HQ.out u10 O10.out
            clear hU hQ hQl
            go_wp2
            have fr_R1B : ∀ j s, j < 12 → (([some 88, some 89, some 90, some 91, some 92, some 93, some 94, some 95, some 87, some 96, some 97, some 4] : List (Option Nat)).all fun d => d != some s) = true → ([some 88, some 89, some 90, some 91, some 92, some 93, some 94, some 95, some 87, some 96, some 97, some 4] : List (Option Nat)).getD j none ≠ some s := by
              intro j s hj ha e
              rw [List.getD_eq_getElem?_getD, List.getElem?_eq_getElem (by exact hj), Option.getD_some] at e
              have := List.all_eq_true.1 ha _ (List.getElem_mem (by exact hj))
              rw [e] at this
              simp at this
            refine region_tel (by kernel_rfl) (fun k0 => ([some 88, some 89, some 90, some 91, some 92, some 93, some 94, some 95, some 87, some 96, some 97, some 4] : List (Option Nat)).getD k0 none) (PL [eqP v10, eqP (.pointer (some ⟨w.heap.size, 7, none⟩)), eqP (iv rate), eqP (.pointer (some ⟨w.heap.size, 2, none⟩)), eqP (iv (cr : Nat)), eqP (iv (Un : Nat)), eqP (iv (Q : Nat)), (PutP (w.heap.size + 1) u10 ((l9 ++ bitsN 16 Bk) ++ bitsN 16 Q)), (PutP (w.heap.size + 1) u10 ((l9 ++ bitsN 16 Bk) ++ bitsN 16 Q)), (RowP (w.heap.size + 1) u10 ((l9 ++ bitsN 16 Bk) ++ bitsN 16 Q)), eqP (iv 0), (RowP (w.heap.size + 1) u10 ((l9 ++ bitsN 16 Bk) ++ bitsN 16 Q))]) (FrP u10) (OldP u10 7) 106 12 rfl (by kernel_rfl) (by kernel_rfl) rfl (by kernel_rfl) (by kernel_rfl) (stab_all ⟨fun _ _ _ h _ => h, fun _ _ _ h _ => h, fun _ _ _ h _ => h, fun _ _ _ h _ => h, fun _ _ _ h _ => h, fun _ _ _ h _ => h, fun _ _ _ h _ => h, fun _ _ _ h ho => h.keep ho, fun _ _ _ h ho => h.keep ho, fun _ _ _ h ho => h.keep ho, fun _ _ _ h _ => h, fun _ _ _ h ho => h.keep ho, trivial⟩) OldP.begin ?stepsR1B (fun vs => [(88, vs 0), (89, vs 1), (90, vs 2), (91, vs 3), (92, vs 4), (93, vs 5), (94, vs 6), (95, vs 7), (87, vs 8), (96, vs 9), (97, vs 10), (4, vs 11)]) (fun vs => rfl) ?doneR1B
            case stepsR1B =>
              refine ⟨?_, ?_, ?_, ?_, ?_, ?_, ?_, ?_, ?_, ?_, ?_, ?_, trivial⟩
              · intro L vs A' u hW hL0 hnd K' hK
                have ny7 : L 7 = false := notYet hW.closed (j := 7) (by rfl) (k := 0) (by kernel_rfl) hL0
                have ny8 : L 8 = false := notYet hW.closed (j := 8) (by rfl) (k := 7) (by kernel_rfl) ny7
                have ny9 : L 9 = false := notYet hW.closed (j := 9) (by rfl) (k := 8) (by kernel_rfl) ny8
                have ny11 : L 11 = false := notYet hW.closed (j := 11) (by rfl) (k := 9) (by kernel_rfl) ny9
                have r4 : A'.tmps[4]? = some (v10) := (hW.fresh 11 4 (by decide) ny11 rfl).trans rfl
                go_simp
                exact hK _ _ rfl (FrP.refl _ _) (hW.wi.s.same (by decide))
              · intro L vs A' u hW hL0 hnd K' hK
                have r1 : A'.tmps[1]? = some (.pointer (some ⟨w.heap.size, 0, none⟩)) := (hW.out 1 (fun j hj => fr_R1B j 1 hj (by kernel_rfl))).trans rfl
                go_simp
                exact hK _ _ rfl (FrP.refl _ _) (hW.wi.s.same (by decide))
              · intro L vs A' u hW hL0 hnd K' hK
                have ny6 : L 6 = false := notYet hW.closed (j := 6) (by rfl) (k := 2) (by kernel_rfl) hL0
                have ny7 : L 7 = false := notYet hW.closed (j := 7) (by rfl) (k := 6) (by kernel_rfl) ny6
                have r89 : A'.tmps[89]? = some (.pointer (some ⟨w.heap.size, 7, none⟩)) := by
                  obtain ⟨x, e, h⟩ := hW.tel 1 89 (by decide) (hnd 1 (by kernel_rfl)) rfl
                  rw [e]; exact congrArg some h
                have hc := U.cell_keep (hW.wi.s.old ny7).1 q7
                go_simp
                exact hK _ _ rfl (FrP.refl _ _) (hW.wi.s.same (by decide))
              · intro L vs A' u hW hL0 hnd K' hK
                have r1 : A'.tmps[1]? = some (.pointer (some ⟨w.heap.size, 0, none⟩)) := (hW.out 1 (fun j hj => fr_R1B j 1 hj (by kernel_rfl))).trans rfl
                go_simp
                exact hK _ _ rfl (FrP.refl _ _) (hW.wi.s.same (by decide))
              · intro L vs A' u hW hL0 hnd K' hK
                have ny5 : L 5 = false := notYet hW.closed (j := 5) (by rfl) (k := 4) (by kernel_rfl) hL0
                have ny6 : L 6 = false := notYet hW.closed (j := 6) (by rfl) (k := 5) (by kernel_rfl) ny5
                have ny7 : L 7 = false := notYet hW.closed (j := 7) (by rfl) (k := 6) (by kernel_rfl) ny6
                have r91 : A'.tmps[91]? = some (.pointer (some ⟨w.heap.size, 2, none⟩)) := by
                  obtain ⟨x, e, h⟩ := hW.tel 3 91 (by decide) (hnd 3 (by kernel_rfl)) rfl
                  rw [e]; exact congrArg some h
                have hc := U.cell_keep (hW.wi.s.old ny7).1 q2
                go_simp
                exact hK _ _ rfl (FrP.refl _ _) (hW.wi.s.same (by decide))
              · intro L vs A' u hW hL0 hnd K' hK
                have r92 : A'.tmps[92]? = some (iv (cr : Nat)) := by
                  obtain ⟨x, e, h⟩ := hW.tel 4 92 (by decide) (hnd 4 (by kernel_rfl)) rfl
                  rw [e]; exact congrArg some h
                have HCL := Lib.hid (HUn.out u)
                go_simp
                refine (HCL.out).mono ?_
                rintro _ u' ⟨rfl, rfl⟩
                exact hK _ _ rfl (FrP.refl _ _) (hW.wi.s.same (by decide))
              · intro L vs A' u hW hL0 hnd K' hK
                have r90 : A'.tmps[90]? = some (iv rate) := by
                  obtain ⟨x, e, h⟩ := hW.tel 2 90 (by decide) (hnd 2 (by kernel_rfl)) rfl
                  rw [e]; exact congrArg some h
                have r93 : A'.tmps[93]? = some (iv (Un : Nat)) := by
                  obtain ⟨x, e, h⟩ := hW.tel 5 93 (by decide) (hnd 5 (by kernel_rfl)) rfl
                  rw [e]; exact congrArg some h
                go_simp
                exact hK _ _ (congrArg iv HQe.out) (FrP.refl _ _) (hW.wi.s.same (by decide))
              · intro L vs A' u hW hL0 hnd K' hK
                have r88 : A'.tmps[88]? = some (v10) := by
                  obtain ⟨x, e, h⟩ := hW.tel 0 88 (by decide) (hnd 0 (by kernel_rfl)) rfl
                  rw [e]; exact congrArg some h
                have r94 : A'.tmps[94]? = some (iv (Q : Nat)) := by
                  obtain ⟨x, e, h⟩ := hW.tel 6 94 (by decide) (hnd 6 (by kernel_rfl)) rfl
                  rw [e]; exact congrArg some h
                obtain ⟨hS1, hS2⟩ := hW.wi.s.old hL0
                have HCL := Lib.hid (HPut.out u v10 (l9 ++ bitsN 16 Bk) 16 Q (Q : Nat) (U.row_keep R10.out hS1) ((O10).out.trans (U.Only.top hS1)) (by have := HLz.out; omega) (by decide) (by decide) HQl.out rfl)
                go_simp
                refine (HCL.out).mono ?_
                rintro _ u' ⟨v', rfl, hr', ho', hg'⟩
                exact hK _ _ (show PutP _ _ _ _ _ from ⟨by omega, v', rfl, hr', (U.Only.top hS1).trans ho'⟩) (fun hlt => by omega) OldP.fin
              · intro L vs A' u hW hL0 hnd K' hK
                obtain ⟨x95, r95, p95⟩ := hW.tel 7 95 (by decide) (hnd 7 (by kernel_rfl)) rfl
                go_simp
                exact hK _ _ p95 (FrP.refl _ _) (hW.wi.s.same (by decide))
              · intro L vs A' u hW hL0 hnd K' hK
                obtain ⟨x87, r87, p87⟩ := hW.tel 8 87 (by decide) (hnd 8 (by kernel_rfl)) rfl
                obtain ⟨h1, v', rfl, h2, h3⟩ := p87
                go_simp
                exact hK _ _ (show RowP _ _ _ _ _ from ⟨h1, h2, h3⟩) (FrP.refl _ _) (hW.wi.s.same (by decide))
              · intro L vs A' u hW hL0 hnd K' hK
                obtain ⟨x87, r87, p87⟩ := hW.tel 8 87 (by decide) (hnd 8 (by kernel_rfl)) rfl
                obtain ⟨h1, v', rfl, h2, h3⟩ := p87
                go_simp
                exact hK _ _ rfl (FrP.refl _ _) (hW.wi.s.same (by decide))
              · intro L vs A' u hW hL0 hnd K' hK
                obtain ⟨x96, r96, p96⟩ := hW.tel 9 96 (by decide) (hnd 9 (by kernel_rfl)) rfl
                go_simp
                exact hK _ _ p96 (FrP.refl _ _) (hW.wi.s.same (by decide))
            case doneR1B =>
              intro L vs u12 hS hP hall
              have e0 : vs 0 = v10 := hP 0 (by decide)
              have e1 : vs 1 = .pointer (some ⟨w.heap.size, 7, none⟩) := hP 1 (by decide)
              have e2 : vs 2 = iv rate := hP 2 (by decide)
              have e3 : vs 3 = .pointer (some ⟨w.heap.size, 2, none⟩) := hP 3 (by decide)
              have e4 : vs 4 = iv (cr : Nat) := hP 4 (by decide)
              have e5 : vs 5 = iv (Un : Nat) := hP 5 (by decide)
              have e6 : vs 6 = iv (Q : Nat) := hP 6 (by decide)
              obtain ⟨_, hr12, ho12⟩ : RowP (w.heap.size + 1) u10 ((l9 ++ bitsN 16 Bk) ++ bitsN 16 Q) (vs 11) u12 := hP 11 (by decide)
              have R12 := Lib.hid hr12
              have O12 := Lib.hid ((O10).out.trans ho12)
              clear hr12 ho12 hS hP hall fr_R1B q1 q2 q3 q4 q5 q6 q7 hw17 HUn hU2 hU3 hU0 hU1
              simp only [putV, List.foldl_cons, List.foldl_nil, List.setIfInBounds_toArray, List.set_cons_zero, List.set_cons_succ]
              clear e0 e1 e2 e3 e4 e5 e6
              generalize vs 11 = v12 at *
              have hLe : ((l9 ++ bitsN 16 Bk) ++ bitsN 16 Q) = L9 := by rw [HL.out]; try simp only [List.append_nil]
              have RL : Hid (U.Bitrow u12 (w.heap.size + 1) v12 L9) := Lib.hid (by rw [← hLe]; exact R12.out)
              have OL : Hid (Only (U.Top (w.heap.size + 1)) W0 u12) := O12
              have PB := Lib.hid (U.bytesRef_any RL.out HPk.out (by omega))
              clear hLe
              go_wp2_with fail
              refine (PB.out).mono ?_
              rintro _ y1 ⟨z1, rfl, hy1, oy1⟩
              have HY1 := Lib.hid hy1
              have OY1 := Lib.hid (OL.out.trans (U.Only.top oy1))
              have PS := Lib.hid (HSum.out y1 z1 (U.owns_src hy1 (by omega) Hlt.out))
              obtain ⟨A1, c1, hz1⟩ := owns_slice hy1
              subst hz1
              have HYs : Hid (u12.heap.size ≤ y1.heap.size) := Lib.hid oy1.size
              clear hy1 oy1 PB
              go_wp2_with fail
              refine (PS.out).mono ?_
              rintro _ y2 ⟨rfl, oy2⟩
              have oz1 := HYs.out
              have oz2 := oy2.size
              have HY2 := Lib.hid (owns_only HY1.out oy2 (fun _ _ e => e))
              have OY2 := Lib.hid (OY1.out.trans (U.Only.top oy2))
              have hS2 : (S : Int) % 256 = (S : Int) := by omega
              have hyz : u12.heap.size ≤ y2.heap.size := by omega
              clear oy2 PS
              go_wp2_with (at_builtin; refine U.wpList_append_bytes rfl (.tmp 100) (.tmp 104) rfl u12.heap.size (.slice A1 BB.length c1) BB.length (BB.map byt) rfl (HY2.out.alloc _) (some ⟨y2.heap.size, 0, none⟩) 1 1 [S] rfl (U.src1 y2 S hS _) (by omega) (by simp; omega) ?fin)
              case fin =>
                intro v3 y3 hown3 hgr3 _
                have OY3 : Only (U.Top (w.heap.size + 1)) W0 y3 := (OY2.out.alloc _).grown hgr3 (fun q e => .inl (by have h5 := (HY2.out.lt q e).1; have h6 := OL.out.size; have h7 := HS0.out; show w.heap.size + 1 ≤ q; omega))
                have hW3 : y3.ownsRow u12.heap.size 5 1 v3 WB.length (WB.map byt) := by rw [hwl, HW.out, List.map_append]; exact hown3
                obtain ⟨A4, c4, hz4⟩ := owns_slice hW3
                subst hz4
                have HW3 := Lib.hid hW3
                have OF := Lib.hid (HEnd.out _ OY3)
                have hwz : WB.length ≤ 140737488355328 := by omega
                clear hown3 hgr3 hW3 OY3
                go_wp2
                go_ret
                exact ⟨_, _, rfl, U.owns_src HW3.out hwz HWl.out, OF.out⟩
          · have d15 : ((cr : Int) == 12) = false := by simp; omega
            have d17 : decide ((12 : Int) < (cr : Int)) = false := by simp; omega
            obtain ⟨q1, q2, q3, q4, q5, q6, q7⟩ := HQ.out u10 O10.out
            have hLe : (l9 ++ bitsN 16 Bk) = L9 := by rw [HL.out]; try simp only [List.append_nil]
            have RL : Hid (U.Bitrow u10 (w.heap.size + 1) v10 L9) := Lib.hid (by rw [← hLe]; exact R10.out)
            have OL : Hid (Only (U.Top (w.heap.size + 1)) W0 u10) := O10
            have PB := Lib.hid (U.bytesRef_any RL.out HPk.out (by omega))
            clear hLe
            go_wp2_with fail
            refine (PB.out).mono ?_
            rintro _ y1 ⟨z1, rfl, hy1, oy1⟩
            have HY1 := Lib.hid hy1
            have OY1 := Lib.hid (OL.out.trans (U.Only.top oy1))
            have PS := Lib.hid (HSum.out y1 z1 (U.owns_src hy1 (by omega) Hlt.out))
            obtain ⟨A1, c1, hz1⟩ := owns_slice hy1
            subst hz1
            have HYs : Hid (u10.heap.size ≤ y1.heap.size) := Lib.hid oy1.size
            clear hy1 oy1 PB
            go_wp2_with fail
            refine (PS.out).mono ?_
            rintro _ y2 ⟨rfl, oy2⟩
            have oz1 := HYs.out
            have oz2 := oy2.size
            have HY2 := Lib.hid (owns_only HY1.out oy2 (fun _ _ e => e))
            have OY2 := Lib.hid (OY1.out.trans (U.Only.top oy2))
            have hS2 : (S : Int) % 256 = (S : Int) := by omega
            have hyz : u10.heap.size ≤ y2.heap.size := by omega
            clear oy2 PS
            go_wp2_with (at_builtin; refine U.wpList_append_bytes rfl (.tmp 100) (.tmp 104) rfl u10.heap.size (.slice A1 BB.length c1) BB.length (BB.map byt) rfl (HY2.out.alloc _) (some ⟨y2.heap.size, 0, none⟩) 1 1 [S] rfl (U.src1 y2 S hS _) (by omega) (by simp; omega) ?fin)
            case fin =>
              intro v3 y3 hown3 hgr3 _
              have OY3 : Only (U.Top (w.heap.size + 1)) W0 y3 := (OY2.out.alloc _).grown hgr3 (fun q e => .inl (by have h5 := (HY2.out.lt q e).1; have h6 := OL.out.size; have h7 := HS0.out; show w.heap.size + 1 ≤ q; omega))
              have hW3 : y3.ownsRow u10.heap.size 5 1 v3 WB.length (WB.map byt) := by rw [hwl, HW.out, List.map_append]; exact hown3
              obtain ⟨A4, c4, hz4⟩ := owns_slice hW3
              subst hz4
              have HW3 := Lib.hid hW3
              have OF := Lib.hid (HEnd.out _ OY3)
              have hwz : WB.length ≤ 140737488355328 := by omega
              clear hown3 hgr3 hW3 OY3
              go_wp2
              go_ret
              exact ⟨_, _, rfl, U.owns_src HW3.out hwz HWl.out, OF.out⟩
        · have d11 : ((cb : Int) == 6) = false := by simp; omega
          have d13 : ((cb : Int) == 7) = false := by simp; omega
          have HLz : Hid (l9.length ≤ 200) := Lib.hid (by omega)
          obtain ⟨q1, q2, q3, q4, q5, q6, q7⟩ := HQ.out u9 O9.out
          rcases HKr with ⟨hcr, hr12, Q, hQ, hQl, rfl⟩ | ⟨hcr, hr12, Un, Q, hU, hU0, hU1, hQ, hQl, rfl⟩ | ⟨hcr, rfl⟩
          · have d15 : ((cr : Int) == 12) = true := by simp; omega
            have d17 : decide ((12 : Int) < (cr : Int)) = false := by simp; omega
            have hw15 := tdiv_wrap (n := rate) (by constructor <;> omega) 1000 (by decide)
            have hw15' : IntKind.i64.wrap (rate.tdiv 1000) = rate.tdiv 1000 := hw15
            obtain ⟨q1, q2, q3, q4, q5, q6, q7⟩ := HQ.out u9 O9.out
            have P10 := Lib.hid (HPut.out u9 v9 l9 8 Q (Q : Nat) R9.out O9.out (by have := HLz.out; omega) (by decide) (by decide) hQl rfl)
            go_wp2_with fail
            refine (P10.out).mono ?_
            rintro _ u11 ⟨v11, rfl, hr11, ho11, _⟩
            have R11 := Lib.hid hr11
            have O11 := Lib.hid (O9.out.trans ho11)
            clear hr11 ho11 P10
            obtain ⟨q1, q2, q3, q4, q5, q6, q7⟩ := HQ.out u11 O11.out
            have hLe : (l9 ++ bitsN 8 Q) = L9 := by rw [HL.out]; try simp only [List.append_nil]
            have RL : Hid (U.Bitrow u11 (w.heap.size + 1) v11 L9) := Lib.hid (by rw [← hLe]; exact R11.out)
            have OL : Hid (Only (U.Top (w.heap.size + 1)) W0 u11) := O11
            have PB := Lib.hid (U.bytesRef_any RL.out HPk.out (by omega))
            clear hLe
            go_wp2_with fail
            refine (PB.out).mono ?_
            rintro _ y1 ⟨z1, rfl, hy1, oy1⟩
            have HY1 := Lib.hid hy1
            have OY1 := Lib.hid (OL.out.trans (U.Only.top oy1))
            have PS := Lib.hid (HSum.out y1 z1 (U.owns_src hy1 (by omega) Hlt.out))
            obtain ⟨A1, c1, hz1⟩ := owns_slice hy1
            subst hz1
            have HYs : Hid (u11.heap.size ≤ y1.heap.size) := Lib.hid oy1.size
            clear hy1 oy1 PB
            go_wp2_with fail
            refine (PS.out).mono ?_
            rintro _ y2 ⟨rfl, oy2⟩
            have oz1 := HYs.out
            have oz2 := oy2.size
            have HY2 := Lib.hid (owns_only HY1.out oy2 (fun _ _ e => e))
            have OY2 := Lib.hid (OY1.out.trans (U.Only.top oy2))
            have hS2 : (S : Int) % 256 = (S : Int) := by omega
            have hyz : u11.heap.size ≤ y2.heap.size := by omega
            clear oy2 PS
            go_wp2_with (at_builtin; refine U.wpList_append_bytes rfl (.tmp 100) (.tmp 104) rfl u11.heap.size (.slice A1 BB.length c1) BB.length (BB.map byt) rfl (HY2.out.alloc _) (some ⟨y2.heap.size, 0, none⟩) 1 1 [S] rfl (U.src1 y2 S hS _) (by omega) (by simp; omega) ?fin)
            case fin =>
              intro v3 y3 hown3 hgr3 _
              have OY3 : Only (U.Top (w.heap.size + 1)) W0 y3 := (OY2.out.alloc _).grown hgr3 (fun q e => .inl (by have h5 := (HY2.out.lt q e).1; have h6 := OL.out.size; have h7 := HS0.out; show w.heap.size + 1 ≤ q; omega))
              have hW3 : y3.ownsRow u11.heap.size 5 1 v3 WB.length (WB.map byt) := by rw [hwl, HW.out, List.map_append]; exact hown3
              obtain ⟨A4, c4, hz4⟩ := owns_slice hW3
              subst hz4
              have HW3 := Lib.hid hW3
              have OF := Lib.hid (HEnd.out _ OY3)
              have hwz : WB.length ≤ 140737488355328 := by omega
              clear hown3 hgr3 hW3 OY3
              go_wp2
              go_ret
              exact ⟨_, _, rfl, U.owns_src HW3.out hwz HWl.out, OF.out⟩
          · have d15 : ((cr : Int) == 12) = false := by simp; omega
            have d17 : (12 : Int) < (cr : Int) := by omega
            have HUn : Hid (∀ u, Calls Tryd.prog 23 #[iv (cr : Nat)] u fun e w' => e = .returned (iv (Un : Nat)) ∧ u = w') := Lib.hid (fun u => by rw [← hU]; exact unit_any _ u)
            have hw17 := tdiv_wrap (n := rate) (by constructor <;> omega) Un hU0
            have HQe : Hid (rate.tdiv (Un : Nat) = (Q : Nat)) := Lib.hid hQ
            have HQl : Hid (Q < 2 ^ 16) := Lib.hid hQl
            have hU2 : ¬ ((Un : Nat) : Int) = 0 := by omega
            have hU3 : ¬ Un = 0 := by omega
            obtain ⟨q1, q2, q3, q4, q5, q6, q7⟩ := HQ.out u9 O9.out
            clear hU hQ hQl
            go_wp2
            have fr_R1C : ∀ j s, j < 12 → (([some 88, some 89, some 90, some 91, some 92, some 93, some 94, some 95, some 87, some 96, some 97, some 4] : List (Option Nat)).all fun d => d != some s) = true → ([some 88, some 89, some 90, some 91, some 92, some 93, some 94, some 95, some 87, some 96, some 97, some 4] : List (Option Nat)).getD j none ≠ some s := by
              intro j s hj ha e
              rw [List.getD_eq_getElem?_getD, List.getElem?_eq_getElem (by exact hj), Option.getD_some] at e
              have := List.all_eq_true.1 ha _ (List.getElem_mem (by exact hj))
              rw [e] at this
              simp at this
            refine region_tel (by kernel_rfl) (fun k0 => ([some 88, some 89, some 90, some 91, some 92, some 93, some 94, some 95, some 87, some 96, some 97, some 4] : List (Option Nat)).getD k0 none) (PL [eqP v9, eqP (.pointer (some ⟨w.heap.size, 7, none⟩)), eqP (iv rate), eqP (.pointer (some ⟨w.heap.size, 2, none⟩)), eqP (iv (cr : Nat)), eqP (iv (Un : Nat)), eqP (iv (Q : Nat)), (PutP (w.heap.size + 1) u9 (l9 ++ bitsN 16 Q)), (PutP (w.heap.size + 1) u9 (l9 ++ bitsN 16 Q)), (RowP (w.heap.size + 1) u9 (l9 ++ bitsN 16 Q)), eqP (iv 0), (RowP (w.heap.size + 1) u9 (l9 ++ bitsN 16 Q))]) (FrP u9) (OldP u9 7) 106 12 rfl (by kernel_rfl) (by kernel_rfl) rfl (by kernel_rfl) (by kernel_rfl) (stab_all ⟨fun _ _ _ h _ => h, fun _ _ _ h _ => h, fun _ _ _ h _ => h, fun _ _ _ h _ => h, fun _ _ _ h _ => h, fun _ _ _ h _ => h, fun _ _ _ h _ => h, fun _ _ _ h ho => h.keep ho, fun _ _ _ h ho => h.keep ho, fun _ _ _ h ho => h.keep ho, fun _ _ _ h _ => h, fun _ _ _ h ho => h.keep ho, trivial⟩) OldP.begin ?stepsR1C (fun vs => [(88, vs 0), (89, vs 1), (90, vs 2), (91, vs 3), (92, vs 4), (93, vs 5), (94, vs 6), (95, vs 7), (87, vs 8), (96, vs 9), (97, vs 10), (4, vs 11)]) (fun vs => rfl) ?doneR1C
            case stepsR1C =>
              refine ⟨?_, ?_, ?_, ?_, ?_, ?_, ?_, ?_, ?_, ?_, ?_, ?_, trivial⟩
              · intro L vs A' u hW hL0 hnd K' hK
                have ny7 : L 7 = false := notYet hW.closed (j := 7) (by rfl) (k := 0) (by kernel_rfl) hL0
                have ny8 : L 8 = false := notYet hW.closed (j := 8) (by rfl) (k := 7) (by kernel_rfl) ny7
                have ny9 : L 9 = false := notYet hW.closed (j := 9) (by rfl) (k := 8) (by kernel_rfl) ny8
                have ny11 : L 11 = false := notYet hW.closed (j := 11) (by rfl) (k := 9) (by kernel_rfl) ny9
                have r4 : A'.tmps[4]? = some (v9) := (hW.fresh 11 4 (by decide) ny11 rfl).trans rfl
                go_simp
                exact hK _ _ rfl (FrP.refl _ _) (hW.wi.s.same (by decide))
              · intro L vs A' u hW hL0 hnd K' hK
                have r1 : A'.tmps[1]? = some (.pointer (some ⟨w.heap.size, 0, none⟩)) := (hW.out 1 (fun j hj => fr_R1C j 1 hj (by kernel_rfl))).trans rfl
                go_simp
                exact hK _ _ rfl (FrP.refl _ _) (hW.wi.s.same (by decide))
              · intro L vs A' u hW hL0 hnd K' hK
                have ny6 : L 6 = false := notYet hW.closed (j := 6) (by rfl) (k := 2) (by kernel_rfl) hL0
                have ny7 : L 7 = false := notYet hW.closed (j := 7) (by rfl) (k := 6) (by kernel_rfl) ny6
                have r89 : A'.tmps[89]? = some (.pointer (some ⟨w.heap.size, 7, none⟩)) := by
                  obtain ⟨x, e, h⟩ := hW.tel 1 89 (by decide) (hnd 1 (by kernel_rfl)) rfl
                  rw [e]; exact congrArg some h
                have hc := U.cell_keep (hW.wi.s.old ny7).1 q7
                go_simp
                exact hK _ _ rfl (FrP.refl _ _) (hW.wi.s.same (by decide))
              · intro L vs A' u hW hL0 hnd K' hK
                have r1 : A'.tmps[1]? = some (.pointer (some ⟨w.heap.size, 0, none⟩)) := (hW.out 1 (fun j hj => fr_R1C j 1 hj (by kernel_rfl))).trans rfl
                go_simp
                exact hK _ _ rfl (FrP.refl _ _) (hW.wi.s.same (by decide))
              · intro L vs A' u hW hL0 hnd K' hK
                have ny5 : L 5 = false := notYet hW.closed (j := 5) (by rfl) (k := 4) (by kernel_rfl) hL0
                have ny6 : L 6 = false := notYet hW.closed (j := 6) (by rfl) (k := 5) (by kernel_rfl) ny5
                have ny7 : L 7 = false := notYet hW.closed (j := 7) (by rfl) (k := 6) (by kernel_rfl) ny6
                have r91 : A'.tmps[91]? = some (.pointer (some ⟨w.heap.size, 2, none⟩)) := by
                  obtain ⟨x, e, h⟩ := hW.tel 3 91 (by decide) (hnd 3 (by kernel_rfl)) rfl
                  rw [e]; exact congrArg some h
                have hc := U.cell_keep (hW.wi.s.old ny7).1 q2
                go_simp
                exact hK _ _ rfl (FrP.refl _ _) (hW.wi.s.same (by decide))
              · intro L vs A' u hW hL0 hnd K' hK
                have r92 : A'.tmps[92]? = some (iv (cr : Nat)) := by
                  obtain ⟨x, e, h⟩ := hW.tel 4 92 (by decide) (hnd 4 (by kernel_rfl)) rfl
                  rw [e]; exact congrArg some h
                have HCL := Lib.hid (HUn.out u)
                go_simp
                refine (HCL.out).mono ?_
                rintro _ u' ⟨rfl, rfl⟩
                exact hK _ _ rfl (FrP.refl _ _) (hW.wi.s.same (by decide))
              · intro L vs A' u hW hL0 hnd K' hK
                have r90 : A'.tmps[90]? = some (iv rate) := by
                  obtain ⟨x, e, h⟩ := hW.tel 2 90 (by decide) (hnd 2 (by kernel_rfl)) rfl
                  rw [e]; exact congrArg some h
                have r93 : A'.tmps[93]? = some (iv (Un : Nat)) := by
                  obtain ⟨x, e, h⟩ := hW.tel 5 93 (by decide) (hnd 5 (by kernel_rfl)) rfl
                  rw [e]; exact congrArg some h
                go_simp
                exact hK _ _ (congrArg iv HQe.out) (FrP.refl _ _) (hW.wi.s.same (by decide))
              · intro L vs A' u hW hL0 hnd K' hK
                have r88 : A'.tmps[88]? = some (v9) := by
                  obtain ⟨x, e, h⟩ := hW.tel 0 88 (by decide) (hnd 0 (by kernel_rfl)) rfl
                  rw [e]; exact congrArg some h
                have r94 : A'.tmps[94]? = some (iv (Q : Nat)) := by
                  obtain ⟨x, e, h⟩ := hW.tel 6 94 (by decide) (hnd 6 (by kernel_rfl)) rfl
                  rw [e]; exact congrArg some h
                obtain ⟨hS1, hS2⟩ := hW.wi.s.old hL0
                have HCL := Lib.hid (HPut.out u v9 l9 16 Q (Q : Nat) (U.row_keep R9.out hS1) ((O9).out.trans (U.Only.top hS1)) (by have := HLz.out; omega) (by decide) (by decide) HQl.out rfl)
                go_simp
                refine (HCL.out).mono ?_
                rintro _ u' ⟨v', rfl, hr', ho', hg'⟩
                exact hK _ _ (show PutP _ _ _ _ _ from ⟨by omega, v', rfl, hr', (U.Only.top hS1).trans ho'⟩) (fun hlt => by omega) OldP.fin
              · intro L vs A' u hW hL0 hnd K' hK
                obtain ⟨x95, r95, p95⟩ := hW.tel 7 95 (by decide) (hnd 7 (by kernel_rfl)) rfl
                go_simp
                exact hK _ _ p95 (FrP.refl _ _) (hW.wi.s.same (by decide))
              · intro L vs A' u hW hL0 hnd K' hK
                obtain ⟨x87, r87, p87⟩ := hW.tel 8 87 (by decide) (hnd 8 (by kernel_rfl)) rfl
                obtain ⟨h1, v', rfl, h2, h3⟩ := p87
                go_simp
                exact hK _ _ (show RowP _ _ _ _ _ from ⟨h1, h2, h3⟩) (FrP.refl _ _) (hW.wi.s.same (by decide))
              · intro L vs A' u hW hL0 hnd K' hK
                obtain ⟨x87, r87, p87⟩ := hW.tel 8 87 (by decide) (hnd 8 (by kernel_rfl)) rfl
                obtain ⟨h1, v', rfl, h2, h3⟩ := p87
                go_simp
                exact hK _ _ rfl (FrP.refl _ _) (hW.wi.s.same (by decide))
              · intro L vs A' u hW hL0 hnd K' hK
                obtain ⟨x96, r96, p96⟩ := hW.tel 9 96 (by decide) (hnd 9 (by kernel_rfl)) rfl
                go_simp
                exact hK _ _ p96 (FrP.refl _ _) (hW.wi.s.same (by decide))
            case doneR1C =>
              intro L vs u12 hS hP hall
              have e0 : vs 0 = v9 := hP 0 (by decide)
              have e1 : vs 1 = .pointer (some ⟨w.heap.size, 7, none⟩) := hP 1 (by decide)
              have e2 : vs 2 = iv rate := hP 2 (by decide)
              have e3 : vs 3 = .pointer (some ⟨w.heap.size, 2, none⟩) := hP 3 (by decide)
              have e4 : vs 4 = iv (cr : Nat) := hP 4 (by decide)
              have e5 : vs 5 = iv (Un : Nat) := hP 5 (by decide)
              have e6 : vs 6 = iv (Q : Nat) := hP 6 (by decide)
              obtain ⟨_, hr12, ho12⟩ : RowP (w.heap.size + 1) u9 (l9 ++ bitsN 16 Q) (vs 11) u12 := hP 11 (by decide)
              have R12 := Lib.hid hr12
              have O12 := Lib.hid ((O9).out.trans ho12)
              clear hr12 ho12 hS hP hall fr_R1C q1 q2 q3 q4 q5 q6 q7 hw17 HUn hU2 hU3 hU0 hU1
              simp only [putV, List.foldl_cons, List.foldl_nil, List.setIfInBounds_toArray, List.set_cons_zero, List.set_cons_succ]
              clear e0 e1 e2 e3 e4 e5 e6
              generalize vs 11 = v12 at *
              have hLe : (l9 ++ bitsN 16 Q) = L9 := by rw [HL.out]; try simp only [List.append_nil]
              have RL : Hid (U.Bitrow u12 (w.heap.size + 1) v12 L9) := Lib.hid (by rw [← hLe]; exact R12.out)
              have OL : Hid (Only (U.Top (w.heap.size + 1)) W0 u12) := O12
              have PB := Lib.hid (U.bytesRef_any RL.out HPk.out (by omega))
              clear hLe
              go_wp2_with fail
              refine (PB.out).mono ?_
              rintro _ y1 ⟨z1, rfl, hy1, oy1⟩
              have HY1 := Lib.hid hy1
              have OY1 := Lib.hid (OL.out.trans (U.Only.top oy1))
              have PS := Lib.hid (HSum.out y1 z1 (U.owns_src hy1 (by omega) Hlt.out))
              obtain ⟨A1, c1, hz1⟩ := owns_slice hy1
              subst hz1
              have HYs : Hid (u12.heap.size ≤ y1.heap.size) := Lib.hid oy1.size
              clear hy1 oy1 PB
              go_wp2_with fail
              refine (PS.out).mono ?_
              rintro _ y2 ⟨rfl, oy2⟩
              have oz1 := HYs.out
              have oz2 := oy2.size
              have HY2 := Lib.hid (owns_only HY1.out oy2 (fun _ _ e => e))
              have OY2 := Lib.hid (OY1.out.trans (U.Only.top oy2))
              have hS2 : (S : Int) % 256 = (S : Int) := by omega
              have hyz : u12.heap.size ≤ y2.heap.size := by omega
              clear oy2 PS
              go_wp2_with (at_builtin; refine U.wpList_append_bytes rfl (.tmp 100) (.tmp 104) rfl u12.heap.size (.slice A1 BB.length c1) BB.length (BB.map byt) rfl (HY2.out.alloc _) (some ⟨y2.heap.size, 0, none⟩) 1 1 [S] rfl (U.src1 y2 S hS _) (by omega) (by simp; omega) ?fin)
              case fin =>
                intro v3 y3 hown3 hgr3 _
                have OY3 : Only (U.Top (w.heap.size + 1)) W0 y3 := (OY2.out.alloc _).grown hgr3 (fun q e => .inl (by have h5 := (HY2.out.lt q e).1; have h6 := OL.out.size; have h7 := HS0.out; show w.heap.size + 1 ≤ q; omega))
                have hW3 : y3.ownsRow u12.heap.size 5 1 v3 WB.length (WB.map byt) := by rw [hwl, HW.out, List.map_append]; exact hown3
                obtain ⟨A4, c4, hz4⟩ := owns_slice hW3
                subst hz4
                have HW3 := Lib.hid hW3
                have OF := Lib.hid (HEnd.out _ OY3)
                have hwz : WB.length ≤ 140737488355328 := by omega
                clear hown3 hgr3 hW3 OY3
                go_wp2
                go_ret
                exact ⟨_, _, rfl, U.owns_src HW3.out hwz HWl.out, OF.out⟩
          · have d15 : ((cr : Int) == 12) = false := by simp; omega
            have d17 : decide ((12 : Int) < (cr : Int)) = false := by simp; omega
            obtain ⟨q1, q2, q3, q4, q5, q6, q7⟩ := HQ.out u9 O9.out
            have hLe : l9 = L9 := by rw [HL.out]; try simp only [List.append_nil]
            have RL : Hid (U.Bitrow u9 (w.heap.size + 1) v9 L9) := Lib.hid (by rw [← hLe]; exact R9.out)
            have OL : Hid (Only (U.Top (w.heap.size + 1)) W0 u9) := O9
            have PB := Lib.hid (U.bytesRef_any RL.out HPk.out (by omega))
            clear hLe
            go_wp2_with fail
            refine (PB.out).mono ?_
            rintro _ y1 ⟨z1, rfl, hy1, oy1⟩
            have HY1 := Lib.hid hy1
            have OY1 := Lib.hid (OL.out.trans (U.Only.top oy1))
            have PS := Lib.hid (HSum.out y1 z1 (U.owns_src hy1 (by omega) Hlt.out))
            obtain ⟨A1, c1, hz1⟩ := owns_slice hy1
            subst hz1
            have HYs : Hid (u9.heap.size ≤ y1.heap.size) := Lib.hid oy1.size
            clear hy1 oy1 PB
            go_wp2_with fail
            refine (PS.out).mono ?_
            rintro _ y2 ⟨rfl, oy2⟩
            have oz1 := HYs.out
            have oz2 := oy2.size
            have HY2 := Lib.hid (owns_only HY1.out oy2 (fun _ _ e => e))
            have OY2 := Lib.hid (OY1.out.trans (U.Only.top oy2))
            have hS2 : (S : Int) % 256 = (S : Int) := by omega
            have hyz : u9.heap.size ≤ y2.heap.size := by omega
            clear oy2 PS
            go_wp2_with (at_builtin; refine U.wpList_append_bytes rfl (.tmp 100) (.tmp 104) rfl u9.heap.size (.slice A1 BB.length c1) BB.length (BB.map byt) rfl (HY2.out.alloc _) (some ⟨y2.heap.size, 0, none⟩) 1 1 [S] rfl (U.src1 y2 S hS _) (by omega) (by simp; omega) ?fin)
            case fin =>
              intro v3 y3 hown3 hgr3 _
              have OY3 : Only (U.Top (w.heap.size + 1)) W0 y3 := (OY2.out.alloc _).grown hgr3 (fun q e => .inl (by have h5 := (HY2.out.lt q e).1; have h6 := OL.out.size; have h7 := HS0.out; show w.heap.size + 1 ≤ q; omega))
              have hW3 : y3.ownsRow u9.heap.size 5 1 v3 WB.length (WB.map byt) := by rw [hwl, HW.out, List.map_append]; exact hown3
              obtain ⟨A4, c4, hz4⟩ := owns_slice hW3
              subst hz4
              have HW3 := Lib.hid hW3
              have OF := Lib.hid (HEnd.out _ OY3)
              have hwz : WB.length ≤ 140737488355328 := by omega
              clear hown3 hgr3 hW3 OY3
              go_wp2
              go_ret
              exact ⟨_, _, rfl, U.owns_src HW3.out hwz HWl.out, OF.out⟩
end Go.Proofs.YteahiigfclabfaaDoor.H
