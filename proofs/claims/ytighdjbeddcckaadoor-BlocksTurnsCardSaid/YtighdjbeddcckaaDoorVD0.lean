/-
  append of bytes that came in; bytes.Clone; Zeros, Name.
-/
import Derived.Test.YtighdjbeddcckaaDoorVH0
import Derived.Deep.OwnRows
import Derived.Laws.ResultCell
namespace Go.Proofs.YtighdjbeddcckaaDoor
open Go.RowKit Go.Shelf

/-- bytes b... (nil, empty or not), appended to a row of the call's own -/
theorem run_append_bytes {w : World} (base : Nat) (v : Value) (n : Nat) (xs : List Value) (hown : w.ownsRow base 5 1 v n xs) (A : Option Addr) (m c : Nat) (bs : List Nat) (hs : Src w (.slice A m c) bs)
    (h63 : n + m ≤ 1000000) (hbase : base ≤ w.heap.size) (ty : TypeId) :
    ∃ v' w', (Builtin.append_ #[29, 29] ty #[v, .slice A m c]).run Tryd.prog w = .ok v' w' ∧ w'.ownsRow base 5 1 v' (n + m) (xs ++ bs.map byt) ∧ w.grownBy w' v.ownBlock ∧ (v'.ownBlock = v.ownBlock ∨ v'.ownBlock = some w.heap.size) := by
  obtain ⟨i0, hi, hz0, hz1, hz2⟩ := info_parts Tryd.info_byte
  obtain rfl := hs.len
  cases A with
  | some ad =>
    obtain ⟨v', w', h1, h2, h3, _, h5⟩ := run_append_own_at (P := Tryd.prog) w base 29 ty 5 i0 (.int .u8 0) 1 1 Tryd.underlying29 hi hz0 hz1 hz2 rfl (by decide) v n xs hown ad bs.length c (bs.map byt) (by simp)
      (fun j u hu => by
        rw [List.getElem?_map] at hu
        obtain ⟨x, hx, rfl⟩ := Option.map_eq_some_iff.1 hu
        obtain ⟨hj, rfl⟩ := List.getElem?_eq_some_iff.1 hx
        obtain ⟨ad', e, hc⟩ := hs.at_ hj
        injection e with e
        subst e
        exact hc)
      (fun u hu => by obtain ⟨y, _, rfl⟩ := List.mem_map.1 hu; rfl) (by unfold maxLen; omega) (by omega) hbase
    exact ⟨v', w', h1, h2, h3, h5⟩
  | none =>
    have hb : bs = [] := by
      cases bs with
      | nil => rfl
      | cons x r =>
        obtain ⟨ad', e, _⟩ := hs.at_ (k := 0) (by simp)
        cases e
    subst hb
    have hsrc : Go.Src Tryd.prog i0.size 29 (.slice none 0 c) 0 [] w := Go.Src.ofNil w Tryd.underlying29 c
    have key : ∀ B k d, v = .slice B k d → k ≤ d → (Builtin.append_ #[29, 29] ty #[v, .slice none 0 c]).run Tryd.prog w = .ok v w := by
      rintro B k d rfl hle
      exact run_append_nothing w 29 29 ty 5 i0 Tryd.underlying29 hi B k d hle _ hsrc
    refine ⟨v, w, ?_, by simpa using hown, ⟨rfl, rfl, rfl, Nat.le_refl _, fun _ _ _ => rfl⟩, .inl rfl⟩
    rcases hown.2 with ⟨hv, _⟩ | ⟨g, cap, cur, hv, _, _, hle, _⟩
    · exact key _ _ _ hv (Nat.le_refl _)
    · exact key _ _ _ hv hle
/-- .. at the operation -/
theorem wpList_append_bytes {w : World} {ops : Array Oper} {rest : List Oper} {o : Oper} {a : Act} {Q : Exit → Act → World → Prop} (hgd : o.guard = none) (s x : Operand)
    (ho : o.op = .call { callee := .builtin .append, args := #[s, x], argTypes := #[29, 29] })
    (base : Nat) (v : Value) (n : Nat) (xs : List Value) (hs : a.eval s = v) (hown : w.ownsRow base 5 1 v n xs)
    (A : Option Addr) (m c : Nat) (bs : List Nat) (hx : a.eval x = .slice A m c) (hsrc : Src w (.slice A m c) bs) (h63 : n + m ≤ 1000000) (hbase : base ≤ w.heap.size)
    (h : ∀ v' w', w'.ownsRow base 5 1 v' (n + m) (xs ++ bs.map byt) → w.grownBy w' v.ownBlock → (v'.ownBlock = v.ownBlock ∨ v'.ownBlock = some w.heap.size) → wpList Tryd.prog ops Q rest (a.put o.dst v') w') :
    wpList Tryd.prog ops Q (o :: rest) a w := by
  refine wpList_plain hgd fun K hK => ?_
  obtain ⟨v', w', hr, h2, h3, h4⟩ := run_append_bytes base v n xs hown A m c bs hsrc h63 hbase o.type
  unfold Oper.wp execOp
  simp only [ho, resolve, invoke, builtin, Sem.run_bind, Sem.run_pure, Result.andThen_ok, List.map_toArray, List.map_cons, List.map_nil, hs, hx, hr]
  exact hK _ _ (h v' w' h2 h3 h4)
theorem Owns.csrc {w : World} {base : Nat} {v : Value} {xs : List Nat} (h : Owns w base 5 byt v xs) (hs : xs.length ≤ 1000000) (hf : ∀ x ∈ xs, x < 256) : CSrc w v xs :=
  ⟨h.bytes hs hf, fun A n c e => by
    subst e
    rcases h.2 with ⟨e1, _⟩ | ⟨g, cap, cur, e1, _, _, hle, _⟩
    · injection e1 with _ e2 e3; omega
    · injection e1 with _ e2 e3; omega⟩
def zes (n : Nat) : List Nat := List.replicate n 0
theorem zes_lt (n : Nat) : ∀ x ∈ zes n, x < 256 := fun x hx => by rw [(List.mem_replicate.1 hx).2]; decide
theorem make_zeros (u : World) (N : Nat) (hN : N ≤ 1000000) :
    (Go.Instr.makeSlice 29 (.int .i64 (N : Int)) (.int .i64 (N : Int))).run Tryd.prog u = .ok (.slice (some ⟨u.heap.size, 0, none⟩) N N) (u.alloc (.cells (madeCells #[.int .u8 0] N) 5)) ∧
    CSrc (u.alloc (.cells (madeCells #[.int .u8 0] N) 5)) (.slice (some ⟨u.heap.size, 0, none⟩) N N) (zes N) := by
  refine ⟨run_make_row' (P := Tryd.prog) 29 5 (.int .u8 0) 1 Tryd.underlying29 Tryd.info_byte rfl .i64 .i64 N (by omega) (by omega) u, ⟨Src.of_cells (by simp [zes]) (fun j hj => ?_) (by simp [zes]; omega) (zes_lt N), fun _ _ _ e => by injection e with _ e2 e3; omega⟩⟩
  have hj' : j < N := by simpa [zes] using hj
  rw [Nat.zero_add, (Box.new u 5 (madeCells #[.int .u8 0] N)).cell]
  unfold madeCells
  rw [Array.getElem?_eq_getElem (by simpa using hj')]
  simp [zes, byt, Nat.mod_one]
theorem results_block {fn : Func} {p q : Tmp} (h : fn.results = #[.cell p 38, .tmp q]) (tmps : Array Value) (w : World) (g : Nat) (x y v : Value) (hp : tmps.getD p undef = .pointer (some ⟨g, 0, none⟩)) (hB : Box w g 38 #[x, y]) (hq : tmps.getD q undef = v) :
    (results fn tmps).run Tryd.prog w = .ok (.tuple #[.agg #[x, y], v]) w := by
  have h1 : (loadVar 38 ⟨g, 0, none⟩).run Tryd.prog w = .ok (.agg #[x, y]) w := run_loadVar_row w g _ _ _ (0, 0) _ hB Tryd.underlying38 rfl (by kernel_rfl)
  have hp' : tmps[p]?.getD undef = .pointer (some ⟨g, 0, none⟩) := by simpa using hp
  have hq' : tmps[q]?.getD undef = v := by simpa using hq
  simp [results, h, hp', hq', asAddr, h1]
theorem box_two {w : World} {g : Nat} {x0 y0 : Value} (h : Box w g 38 #[x0, y0]) (x y : Value) : Box ((w.setCell ⟨g, 0, none⟩ x).setCell ⟨g, 1, none⟩ y) g 38 #[x, y] := (h.put 0 x).put 1 y
set_option maxHeartbeats 2000000 in
theorem zeros_any {w : World} (n : Nat) (hn : n ≤ 2000) : Calls Tryd.prog 13 #[iv n] w fun e w' => ∃ v, e = .returned (.tuple #[.agg #[iv 1, v], iv 0]) ∧ CSrc w' v (zes n) ∧ Only Nix w w' := by
  have a1 := Lib.hid ((Only.refl Nix w).alloc (.cells #[iv 0, .slice none 0 0] 38))
  obtain ⟨W1, hW1⟩ : ∃ W1, w.alloc (.cells #[iv 0, .slice none 0 0] 38) = W1 := ⟨_, rfl⟩
  have b1 := Lib.hid (Box.new w 38 #[iv 0, .slice none 0 0])
  rw [hW1] at a1 b1
  have hmk := (make_zeros W1 n (by omega)).1
  have hM := Lib.hid (make_zeros W1 n (by omega)).2
  have hA2 := Lib.hid (a1.out.alloc (.cells (madeCells #[.int .u8 0] n) 5))
  have hb2 := b1.out.alloc (.cells (madeCells #[.int .u8 0] n) 5)
  obtain ⟨W2, hW2⟩ : ∃ W2, W1.alloc (.cells (madeCells #[.int .u8 0] n) 5) = W2 := ⟨_, rfl⟩
  rw [hW2] at hmk hM hA2 hb2
  have c0 := hb2.cell 0
  have c1 := hb2.cell 1
  have z0 := hb2.frozen 0
  have z1 := hb2.frozen 1
  simp only [List.getElem?_toArray, List.getElem?_cons_zero, List.getElem?_cons_succ] at c0 c1
  have hni : ¬ (n : Int) < 0 := by omega
  have hni2 : ¬ (16777215 : Int) < (n : Int) := by omega
  have hFin : Hid (CSrc ((W2.setCell ⟨w.heap.size, 0, none⟩ (iv 1)).setCell ⟨w.heap.size, 1, none⟩ (.slice (some ⟨W1.heap.size, 0, none⟩) n n)) (.slice (some ⟨W1.heap.size, 0, none⟩) n n) (zes n) ∧ Only Nix w ((W2.setCell ⟨w.heap.size, 0, none⟩ (iv 1)).setCell ⟨w.heap.size, 1, none⟩ (.slice (some ⟨W1.heap.size, 0, none⟩) n n))) := Lib.hid (by
    have hlt : w.heap.size < W1.heap.size := b1.out.lt
    have k1 := (Only.refl (Just w.heap.size) W2).setCell (p := ⟨w.heap.size, 0, none⟩) (.inl rfl) (iv 1)
    have k2 := k1.setCell (p := ⟨w.heap.size, 1, none⟩) (.inl rfl) (.slice (some ⟨W1.heap.size, 0, none⟩) n n)
    refine ⟨⟨hM.out.src.only k2 (fun i _ hi ad m c e => ?_), hM.out.cap⟩, hA2.out.then k2 (fun i hi => .inr (by rw [show i = _ from hi]; exact Nat.le_refl _))⟩
    injection e with e _ _
    injection e with e
    rw [← e, show i = w.heap.size from hi]
    show W1.heap.size ≠ w.heap.size
    omega)
  have hBF := Lib.hid (box_two hb2 (iv 1) (.slice (some ⟨W1.heap.size, 0, none⟩) n n))
  clear hb2
  go_enter Tryd.func13, Tryd.ntmps13
  go_wp2
  refine bodyPost_ret (v := .tuple #[.agg #[iv 1, .slice (some ⟨W1.heap.size, 0, none⟩) n n], iv 0]) (results_block rfl _ _ w.heap.size _ _ _ rfl hBF.out rfl) rfl ?_
  exact ⟨_, rfl, hFin.out.1, hFin.out.2⟩
end Go.Proofs.YtighdjbeddcckaaDoor
