/-
  Pictures: their cells, size and check; bytes.Clone.
-/
import Derived.Test.YtphpciglpnbblaaDoorTT
import Derived.Test.YtphpciglpnbblaaDoorTS
import Derived.Test.YtphpciglpnbblaaDoorTF
import Derived.Deep.OwnRows
import Derived.Laws.ResultCell
import Derived.Laws.Rows
import Derived.Laws.Tables
namespace Go.Proofs.YtphpciglpnbblaaDoor
open Go.RowKit Go.Shelf

set_option maxRecDepth 100000 in
/-- bytes b... (nil, empty or not), appended to a row of the call's own -/
theorem run_append_bytes {w : World} (base : Nat) (v : Value) (n : Nat) (xs : List Value) (hown : w.ownsRow base 5 1 v n xs) (A : Option Addr) (m c : Nat) (bs : List Nat) (hs : Src w (.slice A m c) bs)
    (h63 : n + m ≤ 1000000) (hbase : base ≤ w.heap.size) (ty : TypeId) :
    ∃ v' w', (Builtin.append_ #[25, 25] ty #[v, .slice A m c]).run Tryd.prog w = .ok v' w' ∧ w'.ownsRow base 5 1 v' (n + m) (xs ++ bs.map byt) ∧ w.grownBy w' v.ownBlock ∧ (v'.ownBlock = v.ownBlock ∨ v'.ownBlock = some w.heap.size) := by
  obtain ⟨i0, hi, hz0, hz1, hz2⟩ := info_parts Tryd.info_byte
  obtain rfl := hs.len
  cases A with
  | some ad =>
    obtain ⟨v', w', h1, h2, h3, _, h5⟩ := run_append_own_at (P := Tryd.prog) w base 25 ty 5 i0 (.int .u8 0) 1 1 Tryd.underlying25 hi hz0 hz1 hz2 rfl (by decide) v n xs hown ad bs.length c (bs.map byt) (by simp)
      (fun j u hu => by
        rw [List.getElem?_map] at hu
        obtain ⟨x, hx, rfl⟩ := Option.map_eq_some_iff.1 hu
        obtain ⟨hj, rfl⟩ := List.getElem?_eq_some_iff.1 hx
        obtain ⟨ad', e, hc⟩ := hs.at_ hj
        injection e with e
        subst e
        exact hc)
      (fun u hu => by obtain ⟨y, _, rfl⟩ := List.mem_map.1 hu; rfl) (by unfold maxLen; omega) (by omega) hbase
    exact ⟨v', w', h1, h2, h3, h5⟩
  | none =>
    have hb : bs = [] := by
      cases bs with
      | nil => rfl
      | cons x r =>
        obtain ⟨ad', e, _⟩ := hs.at_ (k := 0) (by simp)
        cases e
    subst hb
    have hsrc : Go.Src Tryd.prog i0.size 25 (.slice none 0 c) 0 [] w := Go.Src.ofNil w Tryd.underlying25 c
    have key : ∀ B k d, v = .slice B k d → k ≤ d → (Builtin.append_ #[25, 25] ty #[v, .slice none 0 c]).run Tryd.prog w = .ok v w := by
      rintro B k d rfl hle
      exact run_append_nothing w 25 25 ty 5 i0 Tryd.underlying25 hi B k d hle _ hsrc
    refine ⟨v, w, ?_, by simpa using hown, ⟨rfl, rfl, rfl, Nat.le_refl _, fun _ _ _ => rfl⟩, .inl rfl⟩
    rcases hown.2 with ⟨hv, _⟩ | ⟨g, cap, cur, hv, _, _, hle, _⟩
    · exact key _ _ _ hv (Nat.le_refl _)
    · exact key _ _ _ hv hle
/-- .. at the operation -/
theorem wpList_append_bytes {w : World} {ops : Array Oper} {rest : List Oper} {o : Oper} {a : Act} {Q : Exit → Act → World → Prop} (hgd : o.guard = none) (s x : Operand)
    (ho : o.op = .call { callee := .builtin .append, args := #[s, x], argTypes := #[25, 25] })
    (base : Nat) (v : Value) (n : Nat) (xs : List Value) (hs : a.eval s = v) (hown : w.ownsRow base 5 1 v n xs)
    (A : Option Addr) (m c : Nat) (bs : List Nat) (hx : a.eval x = .slice A m c) (hsrc : Src w (.slice A m c) bs) (h63 : n + m ≤ 1000000) (hbase : base ≤ w.heap.size)
    (h : ∀ v' w', w'.ownsRow base 5 1 v' (n + m) (xs ++ bs.map byt) → w.grownBy w' v.ownBlock → (v'.ownBlock = v.ownBlock ∨ v'.ownBlock = some w.heap.size) → wpList Tryd.prog ops Q rest (a.put o.dst v') w') :
    wpList Tryd.prog ops Q (o :: rest) a w := by
  refine wpList_plain hgd fun K hK => ?_
  obtain ⟨v', w', hr, h2, h3, h4⟩ := run_append_bytes base v n xs hown A m c bs hsrc h63 hbase o.type
  unfold Oper.wp execOp
  simp only [ho, resolve, invoke, builtin, Sem.run_bind, Sem.run_pure, Result.andThen_ok, List.map_toArray, List.map_cons, List.map_nil, hs, hx, hr]
  exact hK _ _ (h v' w' h2 h3 h4)
set_option maxHeartbeats 2000000 in
/-- Clone: the same bytes in new memory. -/
theorem clone_any {w : World} {v0 : Value} {bs : List Nat} (h : CSrc w v0 bs) (hn : bs.length ≤ 100000) :
    Calls Tryd.prog 41 #[v0] w fun e w' => ∃ v, e = .returned v ∧ CSrc w' v bs ∧ Owns w' w.heap.size 5 byt v bs ∧ Only Nix w w' := by
  obtain ⟨A, c, rfl, hc⟩ := h.form
  have hs := h.src
  have hlt := Lib.hid hs.lt
  clear h
  cases A with
  | none =>
    obtain rfl : bs = [] := by
      cases bs with
      | nil => rfl
      | cons x r =>
        obtain ⟨ad', e, _⟩ := hs.at_ (k := 0) (by simp)
        cases e
    have hq := fun (u : World) => Lib.run_eql_slice_nil (P := Tryd.prog) u 25 5 none 0 c 0 0 Tryd.underlying25
    clear hs
    go_enter Tryd.func41, Tryd.ntmps41
    go_wp2
    go_ret
    exact ⟨_, rfl, CSrc.nil _, Owns.nil _ _ _ _, Only.refl _ _⟩
  | some ad =>
    have hq := fun (u : World) => Lib.run_eql_slice_nil (P := Tryd.prog) u 25 5 (some ad) bs.length c 0 0 Tryd.underlying25
    have HS := Lib.hid (hs.nix ((Only.refl Nix w).alloc (.cells #[] 5)))
    have HOw : Hid ((w.alloc (.cells #[] 5)).ownsRow w.heap.size 5 1 (.slice (some ⟨w.heap.size, 0, none⟩) 0 0) 0 []) := Lib.hid (World.ownsRow_lit w #[] 0 (Nat.le_refl _) (by unfold maxLen; omega) rfl)
    have HO := Lib.hid ((Only.refl Nix w).alloc (.cells #[] 5))
    have Hn := Lib.hid hn
    clear hs hn
    go_enter Tryd.func41, Tryd.ntmps41
    go_wp2_with (at_builtin; refine wpList_append_bytes rfl (.tmp 5) (.tmp 6) rfl w.heap.size (.slice (some ⟨w.heap.size, 0, none⟩) 0 0) 0 [] rfl HOw.out (some ad) bs.length c bs rfl HS.out (by have := Hn.out; omega) HO.out.size ?rest)
    case rest =>
      intro v' w' hown hgr _
      have hO : Owns w' w.heap.size 5 byt v' bs := by
        unfold Owns
        simpa using hown
      have HR := Lib.hid hO
      have HF := Lib.hid (HO.out.grown hgr (fun k e => .inr (by simp [Value.ownBlock] at e; omega)))
      clear hown hgr hO
      go_wp2
      go_ret
      exact ⟨_, rfl, HR.out.csrc (by have := Hn.out; omega) hlt.out, HR.out, HF.out⟩

/-- a picture: all but its data -/
structure Pc where
  k : Int
  m : ByteArray
  t : ByteArray
  w : Int
  h : Int
  b : Int
  c : Int
/-- its cells -/
def pcc (p : Pc) (d : Value) : Array Value := #[iv p.k, .string p.m, .string p.t, iv p.w, iv p.h, iv p.b, iv p.c, d]
abbrev pcV (p : Pc) (d : Value) : Value := .agg (pcc p d)
abbrev pcT : TypeId := 40
theorem pcc_size (p : Pc) (d : Value) : (pcc p d).size = 8 := rfl
theorem pcc_one (p : Pc) {d : Value} (h : d.oneCell' = true) : (pcc p d).all (·.oneCell') = true := by simp [pcc, h]; exact ⟨rfl, rfl, rfl, rfl, rfl, rfl, rfl⟩
theorem Tryd.size_picture : (Tryd.prog.info? 40).map (fun x => x.size) = some 8 := by kernel_rfl
theorem box_setRow {w : World} {b : Nat} {t : TypeId} {cs : Array Value} (h : Box w b t cs) (cs' : Array Value) : Box (w.setRow b cs') b t cs' ∧ Only (Just b) w (w.setRow b cs') :=
  ⟨setRow_heap w b cs cs' t (0, 0) h, ⟨rfl, rfl, rfl, by simp, fun k _ hk => setRow_other w b k cs' hk⟩⟩
/-- a picture stored whole -/
theorem store_pic {w : World} {ops : Array Oper} {rest : List Oper} {o : Oper} {a : Act} {Q : Exit → Act → World → Prop} (hg : o.guard = none) (p x : Operand) (hop : o.op = Op.store 40 p x) (hd : o.dst = none)
    (b : Nat) (i j : Pc) (d e : Value) (hp : a.eval p = .pointer (some ⟨b, 0, none⟩)) (hx : a.eval x = pcV i d) (hB : Box w b 40 (pcc j e)) (h1 : d.oneCell' = true)
    (h : ∀ w', Box w' b 40 (pcc i d) → Only (Just b) w w' → wpList Tryd.prog ops Q rest a w') : wpList Tryd.prog ops Q (o :: rest) a w := by
  refine wpList_plain hg fun K hK => ?_
  obtain ⟨h2, h3⟩ := box_setRow hB (pcc i d)
  have hr := run_storeVar_row (P := Tryd.prog) w b 40 40 (pcc j e) (pcc i d) hB Tryd.size_picture rfl (pcc_one i h1)
  unfold Oper.wp execOp
  simp only [hop, Instr.storeAt, Instr.sureAddr, Sem.run_bind, Sem.run_pure, Result.andThen_ok, hp, hx, hr]
  have := hK (a.put o.dst undef) (w.setRow b (pcc i d)) (by rw [hd]; exact h _ h2 h3)
  exact this
/-- .. loaded whole -/
theorem load_pic {w : World} {ops : Array Oper} {rest : List Oper} {o : Oper} {a : Act} {Q : Exit → Act → World → Prop} (hg : o.guard = none) (x : Operand) (ho : o.op = .load 40 x)
    (b : Nat) (i : Pc) (d : Value) (hx : a.eval x = .pointer (some ⟨b, 0, none⟩)) (hB : Box w b 40 (pcc i d))
    (h : wpList Tryd.prog ops Q rest (a.put o.dst (pcV i d)) w) : wpList Tryd.prog ops Q (o :: rest) a w :=
  wpList_load_row hg _ x ho b hx _ _ (0, 0) _ hB Tryd.underlying40 rfl Tryd.size_picture h
theorem results_pic {fn : Func} {p q : Tmp} (h : fn.results = #[.cell p 40, .tmp q]) (tmps : Array Value) (w : World) (g : Nat) (i : Pc) (d v : Value) (hp : tmps.getD p undef = .pointer (some ⟨g, 0, none⟩)) (hB : Box w g 40 (pcc i d)) (hq : tmps.getD q undef = v) :
    (results fn tmps).run Tryd.prog w = .ok (.tuple #[pcV i d, v]) w := by
  have h1 : (loadVar 40 ⟨g, 0, none⟩).run Tryd.prog w = .ok (pcV i d) w := run_loadVar_row w g _ _ _ (0, 0) _ hB Tryd.underlying40 rfl Tryd.size_picture
  have hp' : tmps[p]?.getD undef = .pointer (some ⟨g, 0, none⟩) := by simpa using hp
  have hq' : tmps[q]?.getD undef = v := by simpa using hq
  simp [results, h, hp', hq', asAddr, h1]
theorem built_pic0 : Tryd.prog.built 40 [] = some (pcc ⟨0, ⟨#[]⟩, ⟨#[]⟩, 0, 0, 0, 0⟩ (.slice none 0 0)) := by kernel_rfl
section
variable {w : World} {b : Nat} {p : Pc} {d : Value}
theorem pc0 (h : Box w b pcT (pcc p d)) : w.cell? ⟨b, 0, none⟩ = some (iv p.k) := h.cell 0
theorem pc1 (h : Box w b pcT (pcc p d)) : w.cell? ⟨b, 1, none⟩ = some (.string p.m) := h.cell 1
theorem pc2 (h : Box w b pcT (pcc p d)) : w.cell? ⟨b, 2, none⟩ = some (.string p.t) := h.cell 2
theorem pc3 (h : Box w b pcT (pcc p d)) : w.cell? ⟨b, 3, none⟩ = some (iv p.w) := h.cell 3
theorem pc4 (h : Box w b pcT (pcc p d)) : w.cell? ⟨b, 4, none⟩ = some (iv p.h) := h.cell 4
theorem pc5 (h : Box w b pcT (pcc p d)) : w.cell? ⟨b, 5, none⟩ = some (iv p.b) := h.cell 5
theorem pc6 (h : Box w b pcT (pcc p d)) : w.cell? ⟨b, 6, none⟩ = some (iv p.c) := h.cell 6
theorem pc7 (h : Box w b pcT (pcc p d)) : w.cell? ⟨b, 7, none⟩ = some d := h.cell 7
end
/-- a number of four bytes -/
def isW (n : Int) : Bool := decide (0 ≤ n ∧ n ≤ 4294967295)
theorem isWord_any {w : World} (n : Int) : Calls Tryd.prog 54 #[iv n] w fun e w' => e = .returned (.bool (isW n)) ∧ Only Nix w w' := by
  by_cases h1 : 0 ≤ n
  · by_cases h2 : n ≤ 4294967295
    · have HB : Hid (isW n = true) := Lib.hid (decide_eq_true ⟨h1, h2⟩)
      go_enter Tryd.func54, Tryd.ntmps54
      go_wp2
      go_ret
      exact ⟨by rw [HB.out]; rfl, Only.refl _ _⟩
    · have HB : Hid (isW n = false) := Lib.hid (decide_eq_false (fun h => h2 h.2))
      have h2d : decide (n ≤ 4294967295) = false := decide_eq_false h2
      go_enter Tryd.func54, Tryd.ntmps54
      go_wp2
      go_ret
      exact ⟨by rw [HB.out]; rfl, Only.refl _ _⟩
  · have HB : Hid (isW n = false) := Lib.hid (decide_eq_false (fun h => h1 h.1))
    have h1d : decide (0 ≤ n) = false := decide_eq_false h1
    go_enter Tryd.func54, Tryd.ntmps54
    go_wp2
    go_ret
    exact ⟨by rw [HB.out]; rfl, Only.refl _ _⟩
theorem psize_any {w : World} {p : Pc} {d : Value} {bs : List Nat} (hd : CSrc w d bs) (hm : p.m.size ≤ 1000000) (ht : p.t.size ≤ 1000000) (hb : bs.length ≤ 1000000) :
    Calls Tryd.prog 37 #[pcV p d] w fun e w' => e = .returned (iv ((32 + p.m.size + p.t.size + bs.length : Nat) : Int)) ∧ Only Nix w w' := by
  obtain ⟨A, c, rfl, _⟩ := hd.form
  obtain ⟨W1, hW1⟩ : ∃ W1, w.alloc (.cells (pcc p (.slice A bs.length c)) 40) = W1 := ⟨_, rfl⟩
  have b1 := Box.new w 40 (pcc p (.slice A bs.length c))
  have o1 := Lib.hid ((Only.refl Nix w).alloc (.cells (pcc p (.slice A bs.length c)) 40))
  rw [hW1] at b1 o1
  have c1 := pc1 b1
  have c2 := pc2 b1
  have c7 := pc7 b1
  clear hd b1
  go_enter Tryd.func37, Tryd.ntmps37
  go_wp2
  go_ret
  exact ⟨by go_num, o1.out⟩
/-- which error a picture has that is not too great -/
def pcE (p : Pc) : Int := if isT p.t = true ∧ (nb p.m).all prB = true then (if 0 ≤ p.k ∧ p.k ≤ 20 ∧ isW p.w = true ∧ isW p.h = true ∧ isW p.b = true ∧ isW p.c = true then 0 else 10) else 12
end Go.Proofs.YtphpciglpnbblaaDoor
