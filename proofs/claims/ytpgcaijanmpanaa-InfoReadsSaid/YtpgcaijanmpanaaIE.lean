/-
  An info's cells; infos that are the same; sums that are, or are not.
-/
import Derived.Test.YtpgcaijanmpanaaIA
import Derived.Laws.StructEq
namespace Go.Proofs.Ytpgcaijanmpanaa
open Go.RowKit

/-- an info: what its cells hold -/
structure Nf where
  r : Int
  c : Int
  d : Int
  mb : Int
  xb : Int
  mf : Int
  xf : Int
  t : Int
  s : List Nat
deriving DecidableEq
def nfL (i : Nf) : List Value := [iv i.r, iv i.c, iv i.d, iv i.mb, iv i.xb, iv i.mf, iv i.xf, iv i.t] ++ i.s.map byt
def nfc (i : Nf) : Array Value := (nfL i).toArray
def i64 (n : Int) : Prop := -9223372036854775808 ≤ n ∧ n ≤ 9223372036854775807
instance (n : Int) : Decidable (i64 n) := by unfold i64; infer_instance
def SumOk (s : List Nat) : Prop := s.length = 16 ∧ ∀ x ∈ s, x < 256
instance (s : List Nat) : Decidable (SumOk s) := by unfold SumOk; infer_instance
structure NfI (i : Nf) : Prop where
  r : i64 i.r
  c : i64 i.c
  d : i64 i.d
  mb : i64 i.mb
  xb : i64 i.xb
  mf : i64 i.mf
  xf : i64 i.xf
  t : i64 i.t
  s : SumOk i.s
def zS : List Nat := List.replicate 16 0
def nf0 : Nf := ⟨0, 0, 0, 0, 0, 0, 0, 0, zS⟩
theorem nfc_size {i : Nf} (h : SumOk i.s) : (nfc i).size = 24 := by unfold nfc nfL; simp [h.1]
theorem byt_one (s : List Nat) : ∀ v ∈ s.map byt, v.oneCell' = true := fun v hv => by
  obtain ⟨x, _, rfl⟩ := List.mem_map.1 hv
  rfl
theorem nfc_one (i : Nf) : (nfc i).all (·.oneCell') = true := by
  refine Array.all_eq_true_iff_forall_mem.2 fun v hv => ?_
  unfold nfc nfL at hv
  rcases List.mem_append.1 (List.mem_toArray.1 hv) with h | h
  · simp at h
    rcases h with rfl | rfl | rfl | rfl | rfl | rfl | rfl | rfl <;> rfl
  · exact byt_one _ v h
theorem nfc_0 (i : Nf) : (nfc i)[0]? = some (iv i.r) := rfl
theorem nfc_1 (i : Nf) : (nfc i)[1]? = some (iv i.c) := rfl
theorem nfc_2 (i : Nf) : (nfc i)[2]? = some (iv i.d) := rfl
theorem nfc_3 (i : Nf) : (nfc i)[3]? = some (iv i.mb) := rfl
theorem nfc_4 (i : Nf) : (nfc i)[4]? = some (iv i.xb) := rfl
theorem nfc_5 (i : Nf) : (nfc i)[5]? = some (iv i.mf) := rfl
theorem nfc_6 (i : Nf) : (nfc i)[6]? = some (iv i.xf) := rfl
theorem nfc_7 (i : Nf) : (nfc i)[7]? = some (iv i.t) := rfl
theorem nfc_8 (i : Nf) (j : Nat) : (nfc i)[8 + j]? = (i.s.map byt)[j]? := by unfold nfc nfL; rw [List.getElem?_toArray, List.getElem?_append_right (by simp)]; simp
theorem nfc_sum {i : Nf} (h : SumOk i.s) : (nfc i).extract 8 (8 + 16) = (i.s.map byt).toArray := by
  unfold nfc nfL
  rw [List.extract_toArray, List.extract_eq_take_drop]
  congr 1
  rw [List.drop_left' (by simp), List.take_of_length_le (by simp [h.1])]
theorem nfc_p0 (i : Nf) (v : Int) : (nfc i).setIfInBounds 0 (iv v) = nfc { i with r := v } := rfl
theorem nfc_p1 (i : Nf) (v : Int) : (nfc i).setIfInBounds 1 (iv v) = nfc { i with c := v } := rfl
theorem nfc_p2 (i : Nf) (v : Int) : (nfc i).setIfInBounds 2 (iv v) = nfc { i with d := v } := rfl
theorem nfc_p3 (i : Nf) (v : Int) : (nfc i).setIfInBounds 3 (iv v) = nfc { i with mb := v } := rfl
theorem nfc_p4 (i : Nf) (v : Int) : (nfc i).setIfInBounds 4 (iv v) = nfc { i with xb := v } := rfl
theorem nfc_p5 (i : Nf) (v : Int) : (nfc i).setIfInBounds 5 (iv v) = nfc { i with mf := v } := rfl
theorem nfc_p6 (i : Nf) (v : Int) : (nfc i).setIfInBounds 6 (iv v) = nfc { i with xf := v } := rfl
theorem nfc_p7 (i : Nf) (v : Int) : (nfc i).setIfInBounds 7 (iv v) = nfc { i with t := v } := rfl
/-- a field of a piece -/
theorem run_field_0 (a b : Int) (w : World) : (Instr.field 49 (.agg #[iv a, iv b]) 0).run Try.prog w = .ok (iv a) w := by
  simp [Instr.field, run_underlying Try.underlying49, asAgg, go_sem]
theorem run_field_1 (a b : Int) (w : World) : (Instr.field 49 (.agg #[iv a, iv b]) 1).run Try.prog w = .ok (iv b) w := by
  simp [Instr.field, run_underlying Try.underlying49, asAgg, go_sem]
theorem Try.size_info : (Try.prog.info? 26).map (·.size) = some 24 := by kernel_rfl
theorem Try.size_sum : (Try.prog.info? 24).map (·.size) = some 16 := by kernel_rfl
theorem Try.size_params : (Try.prog.info? 23).map (·.size) = some 3 := by kernel_rfl
theorem Try.size_byte' : (Try.prog.info? 5).map (·.size) = some 1 := by kernel_rfl
theorem run_size_of {t : TypeId} {n : Nat} (h : (Try.prog.info? t).map (·.size) = some n) (w : World) : (sizeOf t).run Try.prog w = .ok n w := by
  cases hq : Try.prog.info? t with
  | none => simp [hq] at h
  | some i =>
    have hs : i.size = n := by simpa [hq] using h
    simp [sizeOf, typeInfo, hq, hs]
theorem agg_byte (w : World) : (isAgg 5).run Try.prog w = .ok false w := by
  unfold isAgg
  rw [Sem.run_bind, run_underlying Try.underlying5 w]
  rfl
theorem agg_int (w : World) : (isAgg 3).run Try.prog w = .ok false w := by
  unfold isAgg
  rw [Sem.run_bind, run_underlying Try.underlying3 w]
  rfl
theorem part_one {t : TypeId} {xs : Array Value} {i : Nat} {v : Value} (h : xs[i]? = some v) (ht : ∀ w, (isAgg t).run Try.prog w = .ok false w) (w : World) : (part t xs i).run Try.prog w = .ok v w := by
  simp [part, ht, h]
theorem part_agg {t : TypeId} {xs ys : Array Value} {i n : Nat} {d : TypeDesc} (hu : Try.prog.underlying t = some d) (hd : (match d with | .struct _ | .array _ _ => true | _ => false) = true) (hz : (Try.prog.info? t).map (·.size) = some n) (_hl : i + n ≤ xs.size) (hy : xs.extract i (i + n) = ys) (w : World) : (part t xs i).run Try.prog w = .ok (.agg ys) w := by
  have hagg : (isAgg t).run Try.prog w = .ok true w := by
    unfold isAgg
    rw [Sem.run_bind, run_underlying hu w]
    cases d <;> simp_all
  simp [part, hagg, run_size_of hz, hy, go_sem]
  try omega
/-- two arrays, element by element -/
theorem run_equalIn_arr {t e : TypeId} {n : Nat} (hu : Try.prog.underlying t = some (.array n e)) (hz : (Try.prog.info? e).map (·.size) = some 1) (ha : ∀ w, (isAgg e).run Try.prog w = .ok false w) (d : Nat) (L M : List Value) (q : Value → Value → Bool)
    (hl : L.length = n) (hm : M.length = n) (hq : ∀ x y, x ∈ L → y ∈ M → ∀ w, (Op.equalIn d e x y).run Try.prog w = .ok (q x y) w) (w : World) :
    (Op.equalIn (d + 1) t (.agg L.toArray) (.agg M.toArray)).run Try.prog w = .ok ((List.range' 0 n).all fun i => q (L.getD i undef) (M.getD i undef)) w := by
  have hp : ∀ i, i < n → ∀ w, (part e L.toArray i).run Try.prog w = .ok (L.getD i undef) w := fun i hi w => part_one (by simp [List.getD_eq_getElem?_getD, hl, hi]) ha w
  have hr : ∀ i, i < n → ∀ w, (part e M.toArray i).run Try.prog w = .ok (M.getD i undef) w := fun i hi w => part_one (by simp [List.getD_eq_getElem?_getD, hm, hi]) ha w
  have hqi : ∀ i, i < n → ∀ w, (Op.equalIn d e (L.getD i undef) (M.getD i undef)).run Try.prog w = .ok (q (L.getD i undef) (M.getD i undef)) w := fun i hi => hq _ _ (by simp [List.getD_eq_getElem?_getD, hl, hi]) (by simp [List.getD_eq_getElem?_getD, hm, hi])
  have hs := run_size_of hz
  unfold Op.equalIn
  simp only [Sem.run_bind, run_underlying hu, Result.andThen_ok, hs, Nat.mul_one]
  rw [Std.Legacy.Range.forIn_eq_forIn_range']
  have key : ∀ (l : List Nat), (∀ i ∈ l, i < n) → ∀ w, (forIn l ((none : Option Bool), ()) (fun i (_ : Option Bool × Unit) => do
      let a ← part e L.toArray i
      let b ← part e M.toArray i
      let c ← Op.equalIn d e a b
      if (!c) = true then pure (ForInStep.done (some false, ())) else pure (ForInStep.yield (none, ()))) : Sem (Option Bool × Unit)).run Try.prog w = .ok (if (l.all fun i => q (L.getD i undef) (M.getD i undef)) = true then none else some false, ()) w := by
    intro l
    induction l with
    | nil => intro _ w; simp
    | cons i l ih =>
      intro hl w
      have hi := hl i (List.mem_cons_self ..)
      rw [List.forIn_cons]
      simp only [Sem.run_bind, hp i hi, hr i hi, hqi i hi, Result.andThen_ok]
      cases hb : q (L.getD i undef) (M.getD i undef) with
      | false => simp only [Bool.not_false, if_true, Sem.run_pure, Result.andThen_ok, List.all_cons, hb, Bool.false_and, Bool.false_eq_true, if_false]
      | true =>
        simp only [Bool.not_true, Bool.false_eq_true, if_false, Sem.run_pure, Result.andThen_ok, List.all_cons, hb, Bool.true_and]
        exact ih (fun j hj => hl j (List.mem_cons_of_mem _ hj)) w
  rw [key _ (fun i hi => by
    have := List.mem_range'_1.1 hi
    simp at this
    omega)]
  simp only [Result.andThen_ok]
  rw [show Std.Legacy.Range.size [:n] = n by simp [Std.Legacy.Range.size]]
  cases hb : ((List.range' 0 n).all fun i => q (L.getD i undef) (M.getD i undef)) with
  | true => simp
  | false => simp
theorem all_same {l : List Nat} {p : Nat → Bool} (h : ∀ i ∈ l, p i = true) : l.all p = true := List.all_eq_true.2 h
/-- two ints -/
def qv : Value → Value → Bool
  | .int _ a, .int _ b => a == b
  | _, _ => false
theorem run_eq_byts (d : Nat) (s t : List Nat) (hs : s.length = 16) (ht : t.length = 16) (w : World) :
    (Op.equalIn (d + 1 + 1) 24 (.agg (s.map byt).toArray) (.agg (t.map byt).toArray)).run Try.prog w = .ok (decide (s = t)) w := by
  rw [run_equalIn_arr Try.underlying24 Try.size_byte' agg_byte (d + 1) (s.map byt) (t.map byt) qv (by simpa using hs) (by simpa using ht) (fun x y hx hy w => by
    obtain ⟨a, _, rfl⟩ := List.mem_map.1 hx
    obtain ⟨b, _, rfl⟩ := List.mem_map.1 hy
    unfold byt
    rw [run_equalIn_int w d 5 .u8 .u8 _ _ Try.underlying5]
    rfl)]
  congr 1
  rw [Bool.eq_iff_iff, List.all_eq_true, decide_eq_true_iff]
  constructor
  · intro h
    refine List.ext_getElem (by omega) fun i h1 h2 => ?_
    have := h i (by simp; omega)
    rw [List.getD_eq_getElem?_getD, List.getD_eq_getElem?_getD, List.getElem?_map, List.getElem?_map, List.getElem?_eq_getElem h1, List.getElem?_eq_getElem h2] at this
    have h3 : ((s[i] : Nat) : Int) = ((t[i] : Nat) : Int) := by simpa [qv, byt] using this
    omega
  · rintro rfl i hi
    have h1 : i < s.length := by simp at hi; omega
    rw [List.getD_eq_getElem?_getD, List.getElem?_map, List.getElem?_eq_getElem h1]
    simp [qv, byt]
theorem run_eql_sum (s t : List Nat) (hs : s.length = 16) (ht : t.length = 16) (w : World) : (binOp .eql 24 (.agg (s.map byt).toArray) (.agg (t.map byt).toArray)).run Try.prog w = .ok (.bool (decide (s = t))) w := by
  rw [run_eql_struct, run_eq_byts 9998 s t hs ht w]
  rfl
theorem run_neq_sum (s t : List Nat) (hs : s.length = 16) (ht : t.length = 16) (w : World) : (binOp .neq 24 (.agg (s.map byt).toArray) (.agg (t.map byt).toArray)).run Try.prog w = .ok (.bool (!decide (s = t))) w := by
  rw [run_neq_struct, run_eq_byts 9998 s t hs ht w]
  rfl
/-- a field that is the same -/
theorem eqf_gen {d : Nat} {xs : Array Value} {v : Value} {f : Field} {fs : List Field} (hn : f.name ≠ "_") (hp : ∀ w, (part f.type xs f.offset).run Try.prog w = .ok v w) (he : ∀ w, (Op.equalIn d f.type v v).run Try.prog w = .ok true w) (hf : ∀ w, (Op.eqFields d xs xs fs).run Try.prog w = .ok true w) (w : World) :
    (Op.eqFields d xs xs (f :: fs)).run Try.prog w = .ok true w := by
  simp [Op.eqFields, hn, Sem.run_bind, hp, he, hf]
theorem eqf_nil {d : Nat} {xs : Array Value} (w : World) : (Op.eqFields d xs xs []).run Try.prog w = .ok true w := rfl
theorem eqf_int {d : Nat} {xs : Array Value} {n : Int} {f : Field} {fs : List Field} (hn : f.name ≠ "_") (ht : f.type = 3) (hx : xs[f.offset]? = some (iv n)) (hf : ∀ w, (Op.eqFields (d + 1) xs xs fs).run Try.prog w = .ok true w) (w : World) :
    (Op.eqFields (d + 1) xs xs (f :: fs)).run Try.prog w = .ok true w :=
  eqf_gen (v := iv n) hn (fun w => by rw [ht]; exact part_one hx agg_int w) (fun w => by rw [ht, run_equalIn_int w d 3 .i64 .i64 n n Try.underlying3]; simp) hf w
theorem fields_info : Try.prog.underlying 26 = some (.struct (Try.prog.fieldsOf 26)) := by kernel_rfl
theorem fields_params : Try.prog.underlying 23 = some (.struct (Try.prog.fieldsOf 23)) := by kernel_rfl
set_option maxRecDepth 100000 in
theorem run_eq_params (d : Nat) (a b c : Int) (w : World) : (Op.equalIn (d + 1 + 1) 23 (.agg #[iv a, iv b, iv c]) (.agg #[iv a, iv b, iv c])).run Try.prog w = .ok true w := by
  rw [run_equalIn_struct w (d + 1) _ _ _ fields_params (by kernel_rfl)]
  have hf := fields_params.symm.trans Try.underlying23
  injection hf with hf
  injection hf with hf
  rw [hf]
  exact eqf_int (d := d) (by decide) rfl rfl (eqf_int (by decide) rfl rfl (eqf_int (by decide) rfl rfl eqf_nil)) w
set_option maxRecDepth 100000 in
theorem run_eq_info (i : Nf) (hs : SumOk i.s) (w : World) : (Op.equalIn 10000 26 (.agg (nfc i)) (.agg (nfc i))).run Try.prog w = .ok true w := by
  rw [run_equalIn_struct w 9999 _ _ _ fields_info (by kernel_rfl)]
  have hf := fields_info.symm.trans Try.underlying26
  injection hf with hf
  injection hf with hf
  rw [hf]
  have h24 := nfc_size hs
  generalize hd : (9997 : Nat) = d
  rw [show (9999 : Nat) = d + 1 + 1 from by omega]
  refine eqf_gen (v := .agg #[iv i.r, iv i.c, iv i.d]) (by decide) (fun w => part_agg Try.underlying23 rfl Try.size_params (by rw [h24]; decide) rfl w) (fun w => run_eq_params d i.r i.c i.d w) ?_ w
  refine eqf_int (by decide) rfl (nfc_3 i) (eqf_int (by decide) rfl (nfc_4 i) (eqf_int (by decide) rfl (nfc_5 i) (eqf_int (by decide) rfl (nfc_6 i) (eqf_int (by decide) rfl (nfc_7 i) ?_))))
  refine eqf_gen (v := .agg (i.s.map byt).toArray) (by decide) (fun w => part_agg Try.underlying24 rfl Try.size_sum (by rw [h24]; decide) (nfc_sum hs) w) (fun w => ?_) eqf_nil
  have := run_eq_byts d i.s i.s hs.1 hs.1 w
  simpa using this
theorem run_eql_info (i : Nf) (hs : SumOk i.s) (w : World) : (binOp .eql 26 (.agg (nfc i)) (.agg (nfc i))).run Try.prog w = .ok (.bool true) w := by
  rw [run_eql_struct, run_eq_info i hs w]
  rfl
theorem run_neq_info (i : Nf) (hs : SumOk i.s) (w : World) : (binOp .neq 26 (.agg (nfc i)) (.agg (nfc i))).run Try.prog w = .ok (.bool false) w := by
  rw [run_neq_struct, run_eq_info i hs w]
  rfl
theorem guard_info (op : BinOp) (x y : Operand) (xs ys : Array Value) (w : World) : (eqGuard op 26 x y (.agg xs) (.agg ys)).run Try.prog w = .ok () w := run_eqGuard_agg w op _ x y xs ys (by kernel_rfl)
theorem guard_sum (op : BinOp) (x y : Operand) (xs ys : Array Value) (w : World) : (eqGuard op 24 x y (.agg xs) (.agg ys)).run Try.prog w = .ok () w := run_eqGuard_agg w op _ x y xs ys (by kernel_rfl)
/-- what build makes -/
theorem wpList_build_is {P : Program} {ops : Array Oper} {rest : List Oper} {o : Oper} {a : Act} {w : World} {Q : Exit → Act → World → Prop} (hg : o.guard = none) (t : TypeId) (parts : Array (Nat × Operand)) (ho : o.op = .build t parts)
    (cells : Array Value) (hb : P.built t (parts.map fun (i, x) => (i, a.eval x)).toList = some cells) (h : wpList P ops Q rest (a.put o.dst (.agg cells)) w) : wpList P ops Q (o :: rest) a w :=
  wpList_build hg t parts ho (by rw [hb]; rfl) (by rw [hb]; exact h)
theorem built_zero : Try.prog.built 26 [] = some (nfc nf0) := by kernel_rfl
theorem built_sum0 : Try.prog.built 24 [] = some (zS.map byt).toArray := by kernel_rfl
theorem sumOk_letters {s : List Nat} (h : SumOk s) : ∃ a0 a1 a2 a3 a4 a5 a6 a7 a8 a9 a10 a11 a12 a13 a14 a15, s = [a0, a1, a2, a3, a4, a5, a6, a7, a8, a9, a10, a11, a12, a13, a14, a15] := by
  obtain ⟨h, _⟩ := h
  match s, h with
  | [a0, a1, a2, a3, a4, a5, a6, a7, a8, a9, a10, a11, a12, a13, a14, a15], _ => exact ⟨_, _, _, _, _, _, _, _, _, _, _, _, _, _, _, _, rfl⟩
theorem built_of (r c d : Int) {s : List Nat} (hs : SumOk s) : Try.prog.built 26 [(0, .agg #[iv r, iv c, iv d]), (1, iv 16), (2, iv 16), (6, .agg (s.map byt).toArray)] = some (nfc ⟨r, c, d, 16, 16, 0, 0, 0, s⟩) := by
  obtain ⟨a0, a1, a2, a3, a4, a5, a6, a7, a8, a9, a10, a11, a12, a13, a14, a15, rfl⟩ := sumOk_letters hs
  kernel_rfl
theorem built_full (r c d mb xb mf xf t : Int) {s : List Nat} (hs : SumOk s) : Try.prog.built 26 [(0, .agg #[iv r, iv c, iv d]), (1, iv mb), (2, iv xb), (3, iv mf), (4, iv xf), (5, iv t), (6, .agg (s.map byt).toArray)] = some (nfc ⟨r, c, d, mb, xb, mf, xf, t, s⟩) := by
  obtain ⟨a0, a1, a2, a3, a4, a5, a6, a7, a8, a9, a10, a11, a12, a13, a14, a15, rfl⟩ := sumOk_letters hs
  kernel_rfl
theorem built_ex : Try.prog.built 26 [(0, .agg #[iv 44100, iv 2, iv 16]), (1, iv 64), (2, iv 64), (3, iv 50), (4, iv 100), (5, iv 84)] = some (nfc ⟨44100, 2, 16, 64, 64, 50, 100, 84, zS⟩) := by kernel_rfl
end Go.Proofs.Ytpgcaijanmpanaa
