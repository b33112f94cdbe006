/-
  Package header, the small functions: the tables, unless, sign, mayBe, Channels, first, row, has, tells.
-/
import Derived.Test.YteahiigfclabfaaDoorHR
namespace Go.Proofs.YteahiigfclabfaaDoor.H
open Go.RowKit

/-- a row of a table -/
structure Rw where
  u : Nat
  l : Nat
  m : Nat
  s : Nat
deriving DecidableEq
def rc (r : Rw) : List Value := [iv r.u, iv r.l, iv r.m, iv r.s]
def rv (r : Rw) : Value := .agg #[iv r.u, iv r.l, iv r.m, iv r.s]
def z0 : Rw := ⟨0, 0, 0, 0⟩
def bT : List Rw := [z0, ⟨192, 1, 1, 0⟩, ⟨576, 1, 1, 0⟩, ⟨1152, 1, 1, 0⟩, ⟨2304, 1, 1, 0⟩, ⟨4608, 1, 1, 0⟩, ⟨1, 1, 256, 8⟩, ⟨1, 1, 65535, 16⟩, ⟨256, 1, 1, 0⟩, ⟨512, 1, 1, 0⟩, ⟨1024, 1, 1, 0⟩, ⟨2048, 1, 1, 0⟩, ⟨4096, 1, 1, 0⟩, ⟨8192, 1, 1, 0⟩, ⟨16384, 1, 1, 0⟩, ⟨32768, 1, 1, 0⟩]
def rT : List Rw := [⟨1, 0, 0, 0⟩, ⟨88200, 1, 1, 0⟩, ⟨176400, 1, 1, 0⟩, ⟨192000, 1, 1, 0⟩, ⟨8000, 1, 1, 0⟩, ⟨16000, 1, 1, 0⟩, ⟨22050, 1, 1, 0⟩, ⟨24000, 1, 1, 0⟩, ⟨32000, 1, 1, 0⟩, ⟨44100, 1, 1, 0⟩, ⟨48000, 1, 1, 0⟩, ⟨96000, 1, 1, 0⟩, ⟨1000, 0, 255, 8⟩, ⟨1, 0, 65535, 16⟩, ⟨10, 0, 65535, 16⟩, z0]
def dT : List Rw := [⟨1, 0, 0, 0⟩, ⟨8, 1, 1, 0⟩, ⟨12, 1, 1, 0⟩, z0, ⟨16, 1, 1, 0⟩, ⟨20, 1, 1, 0⟩, ⟨24, 1, 1, 0⟩, ⟨32, 1, 1, 0⟩, z0, z0, z0, z0, z0, z0, z0, z0]
def chT : List Nat := [1, 2, 3, 4, 5, 6, 7, 8, 2, 2, 2]
/-- the cells of a table -/
def tl (T : List Rw) : List Value := T.flatMap rc
def tc (T : List Rw) : Array Value := (tl T).toArray
/-- a table may be so -/
structure TOk (T : List Rw) : Prop where
  len : T.length = 16
  bd : ∀ r ∈ T, r.u ≤ 1000000 ∧ r.l ≤ 1 ∧ r.m ≤ 65535 ∧ r.s ≤ 16
instance (T : List Rw) : Decidable (TOk T) := decidable_of_iff (T.length = 16 ∧ ∀ r ∈ T, r.u ≤ 1000000 ∧ r.l ≤ 1 ∧ r.m ≤ 65535 ∧ r.s ≤ 16) ⟨fun h => ⟨h.1, h.2⟩, fun h => ⟨h.1, h.2⟩⟩
theorem bOk : TOk bT := by decide
theorem rOk : TOk rT := by decide
theorem dOk : TOk dT := by decide
/-- a code's row -/
def rowOf (T : List Rw) (c : Int) : Rw := if c < 0 ∨ 16 ≤ c then z0 else T.getD c.toNat z0
theorem rowOf_bd {T : List Rw} (h : TOk T) (c : Int) : (rowOf T c).u ≤ 1000000 ∧ (rowOf T c).l ≤ 1 ∧ (rowOf T c).m ≤ 65535 ∧ (rowOf T c).s ≤ 16 := by
  unfold rowOf
  split
  · decide
  · rename_i hc
    have hl : c.toNat < T.length := by rw [h.len]; omega
    rw [List.getD_eq_getElem?_getD, List.getElem?_eq_getElem hl]
    exact h.bd _ (List.getElem_mem hl)
/-- may a row tell a number -/
def telP (r : Rw) (n : Int) : Prop := r.u ≠ 0 ∧ n.tmod r.u = 0 ∧ (r.l : Int) ≤ n.tdiv r.u ∧ n.tdiv r.u ≤ r.m
instance (r : Rw) (n : Int) : Decidable (telP r n) := by unfold telP; exact inferInstance
/-- may a header have a number -/
def mayN (v : Bool) (n : Int) : Prop := 0 ≤ n ∧ n < (if v = true then 68719476736 else 2147483648)
instance (v : Bool) (n : Int) : Decidable (mayN v n) := by unfold mayN; exact inferInstance
/-- Channels' answers -/
def chN (m : Int) : Int := if m < 0 ∨ 11 ≤ m then 0 else (chT.getD m.toNat 0 : Nat)
def chE (m : Int) : Int := if m < 0 ∨ 11 ≤ m then 13 else 0

theorem tl_len (T : List Rw) : (tl T).length = T.length * 4 := by
  induction T with
  | nil => rfl
  | cons r T ih => simp only [tl, List.flatMap_cons, List.length_append, List.length_cons] at *; rw [ih]; simp [rc]; omega
theorem tc_size {T : List Rw} (h : TOk T) : (tc T).size = 64 := by simp [tc, tl_len, h.len]
theorem tl_at (T : List Rw) (k i : Nat) (hk : k < T.length) (hi : i < 4) : (tl T)[k * 4 + i]? = (rc (T[k]))[i]? := by
  induction T generalizing k with
  | nil => simp at hk
  | cons r T ih =>
    have e : tl (r :: T) = rc r ++ tl T := rfl
    rw [e]
    cases k with
    | zero => rw [List.getElem?_append_left (by simp [rc]; omega)]; simp
    | succ k =>
      rw [List.getElem?_append_right (by simp [rc]; omega), show (k + 1) * 4 + i - (rc r).length = k * 4 + i from by simp [rc]; omega, ih k (by simpa using hk)]
      simp
theorem rowOf_in {T : List Rw} (h : TOk T) (k : Nat) (hk : k < 16) : rowOf T k = T[k]'(by rw [h.len]; exact hk) := by
  unfold rowOf
  rw [if_neg (by omega)]
  simp [List.getD_eq_getElem?_getD, h.len, hk]

/-- The tables hold what start-up laid. -/
structure LaidH (w : World) : Prop where
  sums : U.Laid w
  coded : U.LaidC w
  blocks : w.rangeAt 0 0 (tl bT)
  rates : w.rangeAt 1 0 (tl rT)
  depths : w.rangeAt 2 0 (tl dT)
  chans : ∀ k, k < 11 → w.cell? ⟨3, k, none⟩ = some (iv (chT.getD k 0 : Nat))
theorem range_nix {w w' : World} {b o : Nat} {cs : List Value} (h : w.rangeAt b o cs) (ho : Only Nix w w') : w'.rangeAt b o cs := fun j v hj => U.cell_keep ho (h j v hj)
theorem LaidH.nix {w w' : World} (h : LaidH w) (ho : Only Nix w w') : LaidH w' :=
  ⟨h.sums.nix ho, h.coded.nix ho, range_nix h.blocks ho, range_nix h.rates ho, range_nix h.depths ho, fun k hk => U.cell_keep ho (h.chans k hk)⟩
theorem Tryd.under_table : Tryd.prog.underlying 61 = some (.array 16 59) := by kernel_rfl
theorem Tryd.size_table : (Tryd.prog.info? 61).map (·.size) = some 64 := by kernel_rfl
theorem Tryd.size_row : (Tryd.prog.info? 59).map (·.size) = some 4 := by kernel_rfl

/-- an error, unless all is right -/
def un (b : Bool) (e : Int) : Int := if b = true then 0 else e
theorem unless_any (b : Bool) (e : Int) (w : World) :
    Calls Tryd.prog 34 #[.bool b, iv e] w fun x w' => x = .returned (iv (un b e)) ∧ w = w' := by
  go_enter Tryd.func34, Tryd.ntmps34
  cases b
  · go_wp2
    go_ret
    exact ⟨rfl, rfl⟩
  · go_wp2
    go_ret
    exact ⟨rfl, rfl⟩
theorem sign_any (b : Bool) (w : World) :
    Calls Tryd.prog 26 #[.bool b] w fun x w' => x = .returned (iv (if b = true then 1 else 0)) ∧ w = w' := by
  go_enter Tryd.func26, Tryd.ntmps26
  cases b
  · go_wp2
    go_ret
    exact ⟨rfl, rfl⟩
  · go_wp2
    go_ret
    exact ⟨rfl, rfl⟩
theorem mayBe_any (v : Bool) (n : Int) (w : World) :
    Calls Tryd.prog 36 #[.bool v, iv n] w fun x w' => x = .returned (.bool (decide (mayN v n))) ∧ w = w' := by
  by_cases h0 : 0 ≤ n
  · cases v
    · by_cases h1 : n < 2147483648
      · have hd : decide (mayN false n) = true := by simp [mayN]; omega
        rw [hd]
        go_enter Tryd.func36, Tryd.ntmps36
        go_wp2
        go_ret
        exact ⟨rfl, rfl⟩
      · have hd : decide (mayN false n) = false := by simp [mayN]; omega
        rw [hd]
        go_enter Tryd.func36, Tryd.ntmps36
        go_wp2
        go_ret
        exact ⟨rfl, rfl⟩
    · by_cases h1 : n < 68719476736
      · have hd : decide (mayN true n) = true := by simp [mayN]; omega
        rw [hd]
        go_enter Tryd.func36, Tryd.ntmps36
        go_wp2
        go_ret
        exact ⟨rfl, rfl⟩
      · have hd : decide (mayN true n) = false := by simp [mayN]; omega
        rw [hd]
        go_enter Tryd.func36, Tryd.ntmps36
        go_wp2
        go_ret
        exact ⟨rfl, rfl⟩
  · have hd : decide (mayN v n) = false := decide_eq_false (fun h => h0 h.1)
    rw [hd]
    cases v
    · go_enter Tryd.func36, Tryd.ntmps36
      go_wp2
      go_ret
      exact ⟨rfl, rfl⟩
    · go_enter Tryd.func36, Tryd.ntmps36
      go_wp2
      go_ret
      exact ⟨rfl, rfl⟩
theorem channels_any {w : World} (hL : LaidH w) (m : Int) :
    Calls Tryd.prog 18 #[iv m] w fun x w' => x = .returned (.tuple #[iv (chN m), iv (chE m)]) ∧ w = w' := by
  by_cases h0 : m < 0
  · have e1 : chN m = 0 := if_pos (.inl h0)
    have e2 : chE m = 13 := if_pos (.inl h0)
    rw [e1, e2]
    go_enter Tryd.func18, Tryd.ntmps18
    go_wp2
    go_ret2
    exact ⟨rfl, rfl⟩
  · by_cases h1 : 11 ≤ m
    · have e1 : chN m = 0 := if_pos (.inr h1)
      have e2 : chE m = 13 := if_pos (.inr h1)
      rw [e1, e2]
      go_enter Tryd.func18, Tryd.ntmps18
      go_wp2
      go_ret2
      exact ⟨rfl, rfl⟩
    · obtain ⟨k, rfl⟩ : ∃ k : Nat, m = k := ⟨m.toNat, by omega⟩
      have hk : k < 11 := by omega
      have e1 : chN k = (chT.getD k 0 : Nat) := if_neg (by omega)
      have e2 : chE k = 0 := if_neg (by omega)
      rw [e1, e2]
      have hc := hL.chans k hk
      generalize chT.getD k 0 = C at *
      have HL := Lib.hid hL
      clear hL e1 e2
      go_enter Tryd.func18, Tryd.ntmps18
      go_wp2
      go_ret2
      exact ⟨rfl, rfl⟩

/-- A slice of errors, laid in one block. -/
structure ESrc (w : World) (v : Value) (es : List Int) : Prop where
  form : ∃ g c, v = .slice (some ⟨g, 0, none⟩) es.length c ∧ ∀ j, (hj : j < es.length) → w.cell? ⟨g, j, none⟩ = some (iv es[j])
  small : es.length ≤ 1000
/-- the first error of some -/
def fstE : List Int → Int
  | [] => 0
  | e :: l => if e = 0 then fstE l else e
theorem fstE_drop (es : List Int) (j : Nat) (h : ∀ x ∈ es.take j, x = 0) : fstE es = fstE (es.drop j) := by
  induction j generalizing es with
  | zero => rfl
  | succ j ih =>
    cases es with
    | nil => rfl
    | cons e l =>
      have h0 : e = 0 := h e (by simp)
      subst h0
      simp only [fstE, List.drop_succ_cons, if_true]
      exact ih l (fun x hx => h x (by simp [hx]))
def FstP (w : World) (es : List Int) (s2 s5 : Value) (wr : World) : Prop := ∃ j : Nat, j ≤ es.length ∧ s5 = iv j ∧ s2 = iv 0 ∧ (∀ x ∈ es.take j, x = 0) ∧ w = wr

set_option maxHeartbeats 2000000 in
theorem first_any {w : World} (v : Value) (es : List Int) (hE : ESrc w v es) :
    Calls Tryd.prog 33 #[v] w fun x w' => x = .returned (iv (fstE es)) ∧ w = w' := by
  obtain ⟨⟨g, c, rfl, hc⟩, hs⟩ := hE
  have HC := Lib.hid hc
  clear hc
  obtain ⟨n, hn⟩ : ∃ n, es.length = n := ⟨_, rfl⟩
  rw [hn] at hs ⊢
  have Hn := Lib.hid hn
  clear hn
  go_enter Tryd.func33, Tryd.ntmps33
  go_wp2
  go_step3
  go_wp2
  go_step3
  go_wp2
  go_loopw [2, 5] (fun s2 s5 wr => FstP w es s2 s5 wr) (fun _ s5 _ => n - (intOf s5).toNat)
  case atStart => exact ⟨0, Nat.zero_le _, rfl, rfl, by simp, rfl⟩
  case round =>
    obtain ⟨j, hj, rfl, rfl, hal, rfl⟩ := hrel
    rw [Hn.out] at hj
    have HAl := Lib.hid hal
    clear hal
    by_cases hlt : j < n
    · have hltx : j < es.length := by rw [Hn.out]; exact hlt
      have hxj := HC.out j hltx
      have hlt2 : (j : Int) < (n : Int) := by omega
      have HE := Lib.hid (List.take_succ_eq_append_getElem hltx)
      have HD := Lib.hid ((fstE_drop es j HAl.out).trans (by rw [List.drop_eq_getElem_cons hltx]))
      generalize es[j] = x at *
      clear hltx
      by_cases k1 : x = 0
      · subst k1
        go_wp2
        go_roundw
        case rel => exact ⟨j + 1, by rw [Hn.out]; omega, by go_num, rfl, fun y hy => by
                      rw [HE.out] at hy
                      rcases List.mem_append.1 hy with hy | hy
                      · exact HAl.out y hy
                      · simpa using hy, rfl⟩
        case measure => simp [intOf]; omega
      · have HF : Hid (fstE es = x) := Lib.hid (by rw [HD.out]; simp [fstE, k1])
        go_wp2
        simp only [Exit.noGoto]
        go_ret
        exact ⟨by rw [HF.out] <;> rfl, rfl⟩
    · have HF : Hid (fstE es = 0) := Lib.hid (by
        have : j = es.length := by rw [Hn.out]; omega
        rw [fstE_drop es j HAl.out, this, List.drop_length]; rfl)
      go_wp2
      simp only [Exit.noGoto]
      go_ret
      exact ⟨by rw [HF.out] <;> rfl, rfl⟩

theorem row_cells {T : List Rw} (hT : TOk T) (k i : Nat) (hk : k < 16) (hi : i < 4) : (tc T)[k * 4 + i]? = (rc (rowOf T k))[i]? := by
  rw [rowOf_in hT k hk]
  have := tl_at T k i (by rw [hT.len]; exact hk) hi
  simp only [tc, List.getElem?_toArray]
  exact this
set_option maxHeartbeats 2000000 in
theorem row_any {T : List Rw} (hT : TOk T) (c : Int) (w : World) :
    Calls Tryd.prog 30 #[.agg (tc T), iv c] w fun x w' => x = .returned (rv (rowOf T c)) ∧ Only Nix w w' := by
  have hz := tc_size hT
  by_cases h0 : c < 0
  · rw [show rowOf T c = z0 from if_pos (.inl h0)]
    generalize tc T = C at *
    go_enter Tryd.func30, Tryd.ntmps30
    go_wp2
    refine bodyPost_ret (v := rv z0) ?_ rfl ?_
    · simp [results, Tryd.f30, go_sem, rv, z0]
    · exact ⟨rfl, ((Only.refl Nix w).alloc _).alloc _⟩
  · by_cases h16 : 16 ≤ c
    · rw [show rowOf T c = z0 from if_pos (.inr h16)]
      generalize tc T = C at *
      go_enter Tryd.func30, Tryd.ntmps30
      go_wp2
      refine bodyPost_ret (v := rv z0) ?_ rfl ?_
      · simp [results, Tryd.f30, go_sem, rv, z0]
      · exact ⟨rfl, ((Only.refl Nix w).alloc _).alloc _⟩
    · obtain ⟨k, rfl⟩ : ∃ k : Nat, c = k := ⟨c.toNat, by omega⟩
      have hk : k < 16 := by omega
      have c0 := row_cells hT k 0 hk (by decide)
      have c1 := row_cells hT k 1 hk (by decide)
      have c2 := row_cells hT k 2 hk (by decide)
      have c3 := row_cells hT k 3 hk (by decide)
      generalize rowOf T k = R at *
      simp only [Nat.add_zero, rc, List.getElem?_cons_zero, List.getElem?_cons_succ] at c0 c1 c2 c3
      generalize tc T = C at *
      go_enter Tryd.func30, Tryd.ntmps30
      go_wp2
      refine bodyPost_ret (v := rv R) ?_ rfl ?_
      · simp [results, Tryd.f30, go_sem, rv]
      · refine ⟨rfl, ?_⟩
        repeat refine Only.setCell ?_ (.inr (by simp)) _
        exact ((Only.refl Nix w).alloc _).alloc _
theorem field_u (a b c d : Int) (w : World) : (Instr.field 59 (.agg #[iv a, iv b, iv c, iv d]) 0).run Tryd.prog w = .ok (iv a) w := by
  have h := Tryd.underlying59
  have h3 := Tryd.underlying3
  simp [Instr.field, part, isAgg, asAgg, go_sem, Sem.run_bind, run_underlying h, run_underlying h3]
theorem field_s (a b c d : Int) (w : World) : (Instr.field 59 (.agg #[iv a, iv b, iv c, iv d]) 3).run Tryd.prog w = .ok (iv d) w := by
  have h := Tryd.underlying59
  have h3 := Tryd.underlying3
  simp [Instr.field, part, isAgg, asAgg, go_sem, Sem.run_bind, run_underlying h, run_underlying h3]
theorem Tryd.size_tc {T : List Rw} (hT : TOk T) : (Tryd.prog.info? 61).map (·.size) = some (tc T).size := by rw [tc_size hT]; exact Tryd.size_table
set_option maxHeartbeats 2000000 in
theorem has_any {T : List Rw} (hT : TOk T) (c : Int) (w : World) :
    Calls Tryd.prog 35 #[.agg (tc T), iv c] w fun x w' => x = .returned (.bool (decide ((rowOf T c).u ≠ 0))) ∧ Only Nix w w' := by
  have hz := Tryd.size_tc hT
  have hr := row_any hT c
  have ⟨hb, _⟩ := rowOf_bd hT c
  generalize rowOf T c = R at *
  generalize tc T = C at *
  have hB := Box.new w 61 C
  have HZ := Lib.hid hz
  clear hz
  go_enter Tryd.func35, Tryd.ntmps35
  go_wp2_with (refine wpList_load_row rfl 61 _ rfl w.heap.size rfl 61 C (0, 0) _ hB Tryd.under_table rfl HZ.out ?_)
  refine (hr _).mono ?_
  rintro _ w1 ⟨rfl, ho⟩
  obtain ⟨ru, rl, rm, rs⟩ := R
  simp only [rv] at hb ⊢
  have HO := Lib.hid ho
  clear hr hB HZ hT ho
  have hf : ∀ w : World, (Instr.field 59 (.agg #[iv ru, iv rl, iv rm, iv rs]) 0).run Tryd.prog w = .ok (iv ru) w := fun w => field_u ru rl rm rs w
  go_wp2
  go_ret
  refine ⟨?_, ?_⟩
  · congr 2
    by_cases e : ru = 0 <;> simp [e]
  · exact Only.trans ((Only.refl Nix w).alloc _) HO.out
/-- an int's numbers -/
abbrev I64 (n : Int) : Prop := -9223372036854775808 ≤ n ∧ n ≤ 9223372036854775807
theorem tdiv_wrap {n : Int} (h : I64 n) (u : Nat) (hu : 0 < u) : IntKind.i64.wrap (n.tdiv u) = n.tdiv u := by
  have h1 : (n.tdiv u).natAbs ≤ n.natAbs := by
    rw [Int.natAbs_tdiv]
    exact Nat.div_le_self _ _
  rw [IntKind.wrap_i64]
  obtain ⟨h2, h3⟩ := h
  by_cases e : u = 1
  · subst e
    simp only [Int.ofNat_one, Int.tdiv_one]
    omega
  · have h4 : (n.tdiv u).natAbs ≤ n.natAbs / 2 := by
      rw [Int.natAbs_tdiv]
      exact Nat.div_le_div_left (by simpa using (by omega : 2 ≤ u)) (by decide)
    omega
set_option maxHeartbeats 2000000 in
theorem tells_any (R : Rw) (hb : R.u ≤ 1000000 ∧ R.l ≤ 1 ∧ R.m ≤ 65535 ∧ R.s ≤ 16) (n : Int) (hn : I64 n) (w : World) :
    Calls Tryd.prog 37 #[rv R, iv n] w fun x w' => x = .returned (.bool (decide (telP R n))) ∧ Only Nix w w' := by
  obtain ⟨u, l, m, s⟩ := R
  obtain ⟨h1, h2, h3, h4⟩ := hb
  simp only [rv] at *
  by_cases g0 : u = 0
  · subst g0
    have hd : decide (telP ⟨0, l, m, s⟩ n) = false := decide_eq_false (fun h => h.1 rfl)
    rw [hd]
    go_enter Tryd.func37, Tryd.ntmps37
    go_wp2
    go_quiet (fail)
    go_wp2
    go_ret
    exact ⟨rfl, ((Only.refl Nix w).alloc _).drewN _⟩
  · have hu : ¬ ((u : Int) = 0) := by omega
    have hu0 : (0 : Int) < u := by omega
    have hw := tdiv_wrap hn u (by omega)
    by_cases g1 : n.tmod u = 0
    · by_cases g2 : (l : Int) ≤ n.tdiv u
      · have hd : decide (telP ⟨u, l, m, s⟩ n) = decide (n.tdiv u ≤ m) := by
          by_cases g3 : n.tdiv u ≤ m
          · rw [decide_eq_true g3]; exact decide_eq_true ⟨g0, g1, g2, g3⟩
          · rw [decide_eq_false g3]; exact decide_eq_false (fun h => g3 h.2.2.2)
        rw [hd]
        go_enter Tryd.func37, Tryd.ntmps37
        go_wp2
        go_quiet (fail)
        go_wp2
        go_ret
        exact ⟨by simp [g0], ((Only.refl Nix w).alloc _).drewN _⟩
      · have hd : decide (telP ⟨u, l, m, s⟩ n) = false := decide_eq_false (fun h => g2 h.2.2.1)
        have hd2 : decide ((l : Int) ≤ n.tdiv u) = false := decide_eq_false g2
        rw [hd]
        go_enter Tryd.func37, Tryd.ntmps37
        go_wp2
        go_quiet (fail)
        go_wp2
        go_ret
        exact ⟨rfl, ((Only.refl Nix w).alloc _).drewN _⟩
    · have hd : decide (telP ⟨u, l, m, s⟩ n) = false := decide_eq_false (fun h => g1 h.2.1)
      rw [hd]
      go_enter Tryd.func37, Tryd.ntmps37
      go_wp2
      go_quiet (fail)
      go_wp2
      go_ret
      exact ⟨rfl, ((Only.refl Nix w).alloc _).drewN _⟩
end Go.Proofs.YteahiigfclabfaaDoor.H
