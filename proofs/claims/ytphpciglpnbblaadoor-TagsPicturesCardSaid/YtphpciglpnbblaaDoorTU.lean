/-
  Rows of bytes of the call's own, texts, slices of texts: what they hold.
-/
import Derived.Test.YtphpciglpnbblaaDoorTP
import Derived.Test.YtphpciglpnbblaaDoorIR
import Derived.Shelf.Abstract
import Derived.Laws.BytesArg
import Derived.Laws.CopyRow
import Derived.Lib.AppendStr
import Derived.Deep.RegionLaw
namespace Go.Proofs.YtphpciglpnbblaaDoor
open Go.RowKit Go.Shelf

/-- the block of a row of the call's own -/
def Row (v : Value) (k : Nat) : Prop := v.ownBlock = some k
/-- where the row lies now: where it lay, or in new memory -/
def Mvd (w : World) (v v' : Value) : Prop := v'.ownBlock = v.ownBlock ∨ ∀ g, v'.ownBlock = some g → w.heap.size ≤ g
theorem row_nix {W w w' : World} {v : Value} (h : Only Nix W w) (ho : Only (Row v) w w') (hv : ∀ g, v.ownBlock = some g → W.heap.size ≤ g) : Only Nix W w' := h.then ho (fun _ e => .inr (hv _ e))
theorem Mvd.from_ {W w : World} {v v' : Value} (hm : Mvd w v v') (hw : W.heap.size ≤ w.heap.size) (hv : ∀ g, v.ownBlock = some g → W.heap.size ≤ g) : ∀ g, v'.ownBlock = some g → W.heap.size ≤ g := fun g hg => by
  rcases hm with h | h
  · exact hv g (h ▸ hg)
  · exact Nat.le_trans hw (h g hg)
/-- one behind the other -/
theorem Only.row2 {w w1 w2 : World} {v v1 v2 : Value} (h : Only (Row v) w w1) (hm : Mvd w v v1) (h2 : Only (Row v1) w1 w2) (hm2 : Mvd w1 v1 v2) : Only (Row v) w w2 ∧ Mvd w v v2 := by
  refine ⟨h.then h2 (fun i hi => ?_), ?_⟩
  · rcases hm with e | e
    · exact .inl (e.symm.trans hi)
    · exact .inr (e i hi)
  · rcases hm2 with e | e
    · rcases hm with e1 | e1
      · exact .inl (e.trans e1)
      · exact .inr (fun g hg => e1 g (e ▸ hg))
    · exact .inr (fun g hg => Nat.le_trans h.size (e g hg))
/-- one thing more has been appended, behind a new block or not -/
theorem grow_row {w wr w1 : World} {v u v1 : Value} {o : Obj} (hw : Only (Row v) w wr) (hm : Mvd w v u) (hg : (wr.alloc o).grownBy w1 u.ownBlock) (hm1 : v1.ownBlock = u.ownBlock ∨ v1.ownBlock = some (wr.heap.size + 1)) : Only (Row v) w w1 ∧ Mvd w v v1 := by
  refine ⟨(hw.alloc o).grown hg (fun k hk => ?_), ?_⟩
  · rcases hm with h | h
    · exact .inl (h.symm.trans hk)
    · exact .inr (h k hk)
  · rcases hm1 with h1 | h1
    · rcases hm with h | h
      · exact .inl (h1.trans h)
      · exact .inr (fun g hg => h g (h1 ▸ hg))
    · refine .inr (fun g hg => ?_)
      rw [h1] at hg
      injection hg with hg
      have := hw.size
      omega
theorem grow_row0 {w w1 : World} {v v1 : Value} (hg : w.grownBy w1 v.ownBlock) (hm1 : v1.ownBlock = v.ownBlock ∨ v1.ownBlock = some w.heap.size) : Only (Row v) w w1 ∧ Mvd w v v1 :=
  ⟨(Only.refl _ w).grown hg (fun _ hk => .inl hk), hm1.imp id (fun h g hg => by rw [h] at hg; injection hg with hg; omega)⟩
theorem Owns.down {α : Type} {w : World} {a b : Nat} {e : TypeId} {f : α → Value} {v : Value} {xs : List α} (h : Owns w b e f v xs) (hab : a ≤ b) : Owns w a e f v xs := by
  refine ⟨h.1, ?_⟩
  rcases h.2 with hn | ⟨g, cap, cur, e1, hb, r⟩
  · exact .inl hn
  · exact .inr ⟨g, cap, cur, e1, Nat.le_trans hab hb, r⟩
theorem Src.drop {w : World} {ad : Addr} {n c : Nat} {bs : List Nat} (h : Src w (.slice (some ad) n c) bs) (m : Nat) (hm : m ≤ n) : Src w (.slice (some (ad.add m)) (n - m) (c - m)) (bs.drop m) := by
  have hn := h.len
  refine ⟨⟨some (ad.add m), c - m, by rw [List.length_drop, ← hn], fun j hj => ⟨_, rfl, ?_⟩⟩, by have := h.small; rw [List.length_drop]; omega, fun x hx => h.lt x (List.mem_of_mem_drop hx)⟩
  rw [List.length_drop] at hj
  obtain ⟨ad', e, hx⟩ := h.at_ (k := m + j) (by omega)
  injection e with e
  subst e
  rw [add_add, hx, List.getElem_drop]
theorem Src.take {w : World} {A : Option Addr} {n c : Nat} {bs : List Nat} (h : Src w (.slice A n c) bs) (m c' : Nat) (hm : m ≤ n) : Src w (.slice A m c') (bs.take m) := by
  have hn := h.len
  have hl : (bs.take m).length = m := by rw [List.length_take]; omega
  refine ⟨⟨A, c', by rw [hl], fun j hj => ?_⟩, by have := h.small; omega, fun x hx => h.lt x (List.mem_of_mem_take hx)⟩
  obtain ⟨ad, e, hx⟩ := h.at_ (k := j) (by omega)
  exact ⟨ad, e, by rw [hx, List.getElem_take]⟩
/-- bytes, no more than there is room for -/
structure CSrc (w : World) (v : Value) (bs : List Nat) : Prop where
  src : Src w v bs
  cap : ∀ A n c, v = .slice A n c → n ≤ c
theorem CSrc.nix {w w' : World} {v : Value} {bs : List Nat} (h : CSrc w v bs) (ho : Only Nix w w') : CSrc w' v bs := ⟨h.src.nix ho, h.cap⟩
theorem CSrc.nil (w : World) : CSrc w (.slice none 0 0) [] := ⟨Src.nil w, fun _ _ _ e => by injection e with _ e2 e3; omega⟩
theorem CSrc.form {w : World} {v : Value} {bs : List Nat} (h : CSrc w v bs) : ∃ A c, v = .slice A bs.length c ∧ bs.length ≤ c := by
  obtain ⟨A, c, rfl⟩ := h.src.slice
  exact ⟨A, c, rfl, h.cap _ _ _ rfl⟩
theorem Owns.csrc {w : World} {base : Nat} {v : Value} {xs : List Nat} (h : Owns w base 5 byt v xs) (hs : xs.length ≤ 1000000) (hf : ∀ x ∈ xs, x < 256) : CSrc w v xs :=
  ⟨h.bytes hs hf, fun A n c e => by
    subst e
    rcases h.2 with ⟨e1, _⟩ | ⟨g, cap, cur, e1, _, _, hle, _⟩
    · injection e1 with _ e2 e3; omega
    · injection e1 with _ e2 e3; omega⟩
/-- a text's bytes -/
def nb (s : ByteArray) : List Nat := s.data.toList.map UInt8.toNat
theorem nb_len (s : ByteArray) : (nb s).length = s.size := by rw [nb, List.length_map, Array.length_toList]; rfl
theorem nb_lt (s : ByteArray) : ∀ x ∈ nb s, x < 256 := fun x hx => by
  obtain ⟨y, _, rfl⟩ := List.mem_map.1 hx
  exact y.toNat_lt
/-- bytes as a text -/
def strN (bs : List Nat) : ByteArray := ⟨(bs.map UInt8.ofNat).toArray⟩
theorem strN_nb (s : ByteArray) : strN (nb s) = s := by
  obtain ⟨⟨l⟩⟩ := s
  have h : List.map (UInt8.ofNat ∘ UInt8.toNat) l = l := (List.map_congr_left (fun x _ => by simp)).trans (List.map_id' _)
  simp [strN, nb, h]
theorem nb_strN (bs : List Nat) (h : ∀ x ∈ bs, x < 256) : nb (strN bs) = bs := by
  simp only [strN, nb, List.map_map]
  exact (List.map_congr_left (fun x hx => by simpa using h x hx)).trans (List.map_id' _)
theorem strN_size (bs : List Nat) : (strN bs).size = bs.length := by simp [strN, ByteArray.size]
theorem strCells_nb (s : ByteArray) : Lib.strCells s = (nb s).map byt := by simp [Lib.strCells, nb, byt]
theorem nb_inj {s t : ByteArray} (h : nb s = nb t) : s = t := by rw [← strN_nb s, h, strN_nb]
/-- The slice v0 holds these texts. -/
structure SSrc (w : World) (v0 : Value) (l : List ByteArray) : Prop where
  form : ∃ A c, v0 = .slice A l.length c ∧ l.length ≤ c ∧ ∀ j, (hj : j < l.length) → ∃ ad, A = some ad ∧ w.cell? (ad.add j) = some (.string l[j])
  small : l.length ≤ 140737488355328
theorem SSrc.only {F : Nat → Prop} {w w' : World} {v : Value} {l : List ByteArray} (h : SSrc w v l) (ho : Only F w w') (hF : ∀ i, i < w.heap.size → F i → ∀ ad n c, v = .slice (some ad) n c → ad.block ≠ i) : SSrc w' v l := by
  obtain ⟨A, c, hv, hcap, hc⟩ := h.form
  refine ⟨⟨A, c, hv, hcap, fun j hj => ?_⟩, h.small⟩
  obtain ⟨ad, hA, hx⟩ := hc j hj
  refine ⟨ad, hA, cell_only ho hx (fun e => ?_)⟩
  subst hA
  exact hF _ (World.block_lt_of_cell? w _ hx) e ad _ c hv (add_block ad j).symm
theorem SSrc.nix {w w' : World} {v : Value} {l : List ByteArray} (h : SSrc w v l) (ho : Only Nix w w') : SSrc w' v l := h.only ho (fun _ _ e => e.elim)
theorem SSrc.slice {w : World} {v : Value} {l : List ByteArray} (h : SSrc w v l) : ∃ A c, v = .slice A l.length c ∧ l.length ≤ c := by
  obtain ⟨A, c, hv, hcap, _⟩ := h.form
  exact ⟨A, c, hv, hcap⟩
theorem SSrc.at_ {w : World} {A : Option Addr} {n c : Nat} {l : List ByteArray} (h : SSrc w (.slice A n c) l) {k : Nat} (hk : k < l.length) : ∃ ad, A = some ad ∧ w.cell? (ad.add k) = some (.string l[k]) := by
  obtain ⟨A', c', hv, _, hc⟩ := h.form
  injection hv with e1 _ _
  subst e1
  exact hc k hk
theorem SSrc.len {w : World} {A : Option Addr} {n c : Nat} {l : List ByteArray} (h : SSrc w (.slice A n c) l) : n = l.length := by
  obtain ⟨A', c', hv, _⟩ := h.form
  injection hv
theorem SSrc.nil (w : World) : SSrc w (.slice none 0 0) [] := ⟨⟨none, 0, rfl, Nat.le_refl _, fun j hj => by simp at hj⟩, by simp⟩
theorem Owns.texts {w : World} {base : Nat} {v : Value} {xs : List ByteArray} (h : Owns w base 9 Value.string v xs) (hs : xs.length ≤ 140737488355328) : SSrc w v xs := by
  rcases h.2 with ⟨rfl, hn⟩ | ⟨g, cap, cur, rfl, hb, hg, hle, hcm, hsz, ht⟩
  · have : xs = [] := List.eq_nil_of_length_eq_zero hn
    subst this
    exact SSrc.nil w
  · refine ⟨⟨_, cap, rfl, hle, fun j hj => ⟨_, rfl, ?_⟩⟩, hs⟩
    have hB : Box w g 9 cur := hg
    rw [Addr.add_lit, Nat.zero_add, hB.cell]
    have h1 : cur.toList[j]? = (xs.map Value.string)[j]? := by
      have ht' : cur.toList.take xs.length = xs.map Value.string := by simpa using ht
      rw [← ht', List.getElem?_take, if_pos hj]
    simpa [hj] using h1
theorem Tryd.info_string : (Tryd.prog.info? 9).map (fun i => (i.zero, i.size, i.bytes)) = some (some (.string ⟨#[]⟩), 1, 16) := by kernel_rfl
/-- a text is appended -/
theorem app_text {w : World} {ops : Array Oper} {rest : List Oper} {o : Oper} {a : Act} {Q : Exit → Act → World → Prop} (hgd : o.guard = none) (s x : Operand)
    (ho : o.op = .call { callee := .builtin .append, args := #[s, x], argTypes := #[22, 22] })
    (base : Nat) (v : Value) (xs : List ByteArray) (hs : a.eval s = v) (hown : Owns w base 9 Value.string v xs) (g : Nat) (y : ByteArray) (hx : a.eval x = .slice (some ⟨g, 0, none⟩) 1 1) (hc : w.cell? ⟨g, 0, none⟩ = some (.string y)) (h63 : xs.length ≤ 100000) (hbase : base ≤ w.heap.size)
    (h : ∀ v' w', Owns w' base 9 Value.string v' (xs ++ [y]) → w.grownBy w' v.ownBlock → (v'.ownBlock = v.ownBlock ∨ v'.ownBlock = some w.heap.size) → wpList Tryd.prog ops Q rest (a.put o.dst v') w') : wpList Tryd.prog ops Q (o :: rest) a w :=
  wpList_app Tryd.underlying22 Tryd.info_string rfl (by decide) (fun _ => rfl) hgd s x ho base v xs hs hown ⟨g, 0, none⟩ 1 1 [y] hx rfl (fun j hj => by
    obtain rfl : j = 0 := by simpa using hj
    exact hc) (by omega) hbase h
/-- a text's bytes are appended to bytes -/
theorem run_app_str {w : World} (base : Nat) (v : Value) (xs : List Nat) (hown : Owns w base 5 byt v xs) (s : ByteArray) (h63 : xs.length + s.size ≤ 1000000) (hbase : base ≤ w.heap.size) (ty : TypeId) :
    ∃ v' w', (Builtin.append_ #[25, 9] ty #[v, .string s]).run Tryd.prog w = .ok v' w' ∧ Owns w' base 5 byt v' (xs ++ nb s) ∧ w.grownBy w' v.ownBlock ∧ (v'.ownBlock = v.ownBlock ∨ v'.ownBlock = some w.heap.size) := by
  obtain ⟨i0, hi, hz0, hz1, hz2⟩ := info_parts Tryd.info_byte
  obtain ⟨v', w', h1, h2, h3, _⟩ := Lib.run_append_own_string (P := Tryd.prog) w base 25 9 ty 5 i0 Tryd.underlying25 Tryd.underlying9 hi hz0 hz1 hz2 v xs.length (xs.map byt) hown s (by unfold maxLen; omega) (by omega) hbase
  refine ⟨v', w', h1, ?_, h3, ?_⟩
  · unfold Owns
    rw [List.length_append, List.map_append, nb_len, ← strCells_nb]
    exact h2
  · rcases hown.2 with ⟨rfl, hn⟩ | ⟨g, cap, cur, rfl, hbg, hg, hnc, hcm, hcs, htake⟩
    · by_cases hm : s.size = 0
      · have hf := Lib.run_firstCells_string (P := Tryd.prog) w 1 s
        have hr : (Builtin.append_ #[25, 9] ty #[.slice none 0 0, .string s]).run Tryd.prog w = .ok (.slice none 0 0) w := by
          rw [hm] at hf
          simp [Builtin.append_, run_underlying Tryd.underlying25, run_underlying Tryd.underlying9, sizeOf, typeInfo, hi, hz1, Builtin.lenOf, hm, hf]
        rw [hr] at h1
        injection h1 with h1 _
        rw [← h1]
        exact .inl rfl
      · have hr := run_append_nil_string (P := Tryd.prog) w 25 9 ty 5 i0 (.int .u8 0) Tryd.underlying25 Tryd.underlying9 hi hz0 s (by omega) (by omega) (by rw [hz2]; omega)
        rw [hr] at h1
        injection h1 with h1 _
        rw [← h1]
        exact .inr rfl
    · have hxl : (xs.map byt).length = xs.length := by simp
      by_cases hroom : xs.length + s.size ≤ cap
      · have hcs' : cur.size = cap := by simpa using hcs
        have hr := Lib.run_append_room_string (P := Tryd.prog) w 25 9 ty 5 i0 Tryd.underlying25 Tryd.underlying9 hi hz1 g xs.length cap cur hg s hroom (by omega)
        rw [hr] at h1
        injection h1 with h1 _
        rw [← h1]
        exact .inl rfl
      · have holds : ∀ j u, (xs.map byt)[j]? = some u → w.cell? ((⟨g, 0, none⟩ : Addr).add j) = some u := World.ownsRow.cells hown (g := g) rfl
        have hr := Lib.run_append_grow_string (P := Tryd.prog) w 25 9 ty 5 i0 (.int .u8 0) Tryd.underlying25 Tryd.underlying9 hi hz0 ⟨g, 0, none⟩ xs.length cap (xs.map byt) (by rw [hz1]; simp) holds s (by omega) (by omega) (by rw [hz2]; exact growslice_fits (by omega) (by omega))
        rw [hr] at h1
        injection h1 with h1 _
        rw [← h1]
        exact .inr rfl
/-- .. at the operation -/
theorem app_str {w : World} {ops : Array Oper} {rest : List Oper} {o : Oper} {a : Act} {Q : Exit → Act → World → Prop} (hgd : o.guard = none) (s x : Operand)
    (ho : o.op = .call { callee := .builtin .append, args := #[s, x], argTypes := #[25, 9] })
    (base : Nat) (v : Value) (xs : List Nat) (hs : a.eval s = v) (hown : Owns w base 5 byt v xs) (t : ByteArray) (hx : a.eval x = .string t) (h63 : xs.length + t.size ≤ 1000000) (hbase : base ≤ w.heap.size)
    (h : ∀ v' w', Owns w' base 5 byt v' (xs ++ nb t) → w.grownBy w' v.ownBlock → (v'.ownBlock = v.ownBlock ∨ v'.ownBlock = some w.heap.size) → wpList Tryd.prog ops Q rest (a.put o.dst v') w') :
    wpList Tryd.prog ops Q (o :: rest) a w := by
  refine wpList_plain hgd fun K hK => ?_
  obtain ⟨v', w', hr, h2, h3, h4⟩ := run_app_str base v xs hown t h63 hbase o.type
  unfold Oper.wp execOp
  simp only [ho, resolve, invoke, builtin, Sem.run_bind, Sem.run_pure, Result.andThen_ok, List.map_toArray, List.map_cons, List.map_nil, hs, hx, hr]
  exact hK _ _ (h v' w' h2 h3 h4)
theorem eval_of' {A : Act} {s : Nat} {v : Value} (h : A.tmps[s]? = some v) : A.eval (.tmp s) = v := by
  show A.tmps.getD s undef = v
  rw [Array.getD_eq_getD_getElem?, h]; rfl
/-- bytes made a text -/
theorem conv_src {u : World} {v : Value} {bs : List Nat} (h : Src u v bs) : (convert 25 9 v).run Tryd.prog u = .ok (.string (strN bs)) u := by
  obtain ⟨A, c, rfl⟩ := h.slice
  have key : ∀ (ad : Addr) (n : Nat), A = some ad → bs.length = n → (loadCells ad n).run Tryd.prog u = .ok ((bs.map fun (x : Nat) => (x : Int)).map (Value.int .u8)).toArray u := by
    rintro ad n rfl hn
    have := run_loadCells_list (P := Tryd.prog) u ad ((bs.map fun (x : Nat) => (x : Int)).map (Value.int .u8)) (fun j v hj => by
      rw [List.map_map, List.getElem?_map] at hj
      obtain ⟨x, hx, rfl⟩ := Option.map_eq_some_iff.1 hj
      obtain ⟨hjl, rfl⟩ := List.getElem?_eq_some_iff.1 hx
      obtain ⟨ad', e, hc⟩ := h.at_ hjl
      injection e with e
      subst e
      exact hc)
    simpa [hn] using this
  have hst : (strOfNums (bs.map fun (x : Nat) => (x : Int))) = strN bs := by simp [strOfNums, strN, Function.comp_def]
  cases A with
  | some ad =>
    rw [run_convert_bytes_string u _ _ _ _ bs.length c Tryd.underlying25 Tryd.underlying5 (by kernel_rfl), run_bytesToString u _ bs.length c _ (key ad bs.length rfl rfl), foldl_push_bytes, ← hst]
    simp [strOfNums, ByteArray.empty, ByteArray.emptyWithCapacity]
    rfl
  | none =>
    have hb : bs = [] := by
      cases bs with
      | nil => rfl
      | cons x r =>
        obtain ⟨ad', e, _⟩ := h.at_ (k := 0) (by simp)
        cases e
    subst hb
    show (convert 25 9 (.slice none 0 c)).run Tryd.prog u = _
    rw [run_convert_bytes_string u _ _ _ none 0 c Tryd.underlying25 Tryd.underlying5 (by kernel_rfl)]
    rfl
end Go.Proofs.YtphpciglpnbblaaDoor
