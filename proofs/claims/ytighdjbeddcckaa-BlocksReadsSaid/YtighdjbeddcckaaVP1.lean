/-
  Rows of slices of bytes; Plain: its walk.
-/
import Derived.Test.YtighdjbeddcckaaVBF
namespace Go.Proofs.Ytighdjbeddcckaa
open Go.RowKit Go.Shelf

/-- a slice by its parts -/
abbrev Sl := Option Addr × Nat × Nat
def slv (s : Sl) : Value := .slice s.1 s.2.1 s.2.2
theorem Owns.apart {α β : Type} {w : World} {b b' : Nat} {e e' : TypeId} {f : α → Value} {f' : β → Value} {v v' : Value} {xs : List α} {ys : List β} (h : Owns w b e f v xs) (h' : Owns w b' e' f' v' ys) (hne : e ≠ e') : Apart2 v v' := by
  intro g hg hg'
  rcases h.2 with ⟨rfl, _⟩ | ⟨g1, c1, cur1, rfl, _, hh1, _⟩
  · cases hg
  · rcases h'.2 with ⟨rfl, _⟩ | ⟨g2, c2, cur2, rfl, _, hh2, _⟩
    · cases hg'
    · have e1 : g1 = g := by simpa [Value.ownBlock] using hg
      have e2 : g2 = g := by simpa [Value.ownBlock] using hg'
      subst e1 e2
      exact Box.type_ne (t := e) (t' := e') hh1 hh2 hne rfl
theorem Owns.kept {α β : Type} {w w' : World} {b b' : Nat} {e e' : TypeId} {f : α → Value} {f' : β → Value} {v v' : Value} {xs : List α} {ys : List β} (h : Owns w b e f v xs) (h' : Owns w b' e' f' v' ys) (hne : e ≠ e') (hg : w.grownBy w' v'.ownBlock) : Owns w' b e f v xs := h.grown hg (fun g hv e => (h.apart h' hne) g hv e)
theorem Try.info_bytes : ∃ i0, Try.prog.info? 22 = some i0 ∧ (i0.zero, i0.size, i0.bytes) = (some (.slice none 0 0), 1, 24) := ⟨_, rfl, by kernel_rfl⟩
/-- a slice of bytes is appended -/
theorem app_sl {w : World} {ops : Array Oper} {rest : List Oper} {o : Oper} {a : Act} {Q : Exit → Act → World → Prop} (hgd : o.guard = none) (s x : Operand)
    (ho : o.op = .call { callee := .builtin .append, args := #[s, x], argTypes := #[29, 29] })
    (base : Nat) (v : Value) (xs : List Sl) (hs : a.eval s = v) (hown : Owns w base 22 slv v xs) (g : Nat) (y : Sl) (hx : a.eval x = .slice (some ⟨g, 0, none⟩) 1 1) (hc : w.cell? ⟨g, 0, none⟩ = some (slv y)) (h63 : xs.length ≤ 100000) (hbase : base ≤ w.heap.size)
    (h : ∀ v' w', Owns w' base 22 slv v' (xs ++ [y]) → w.grownBy w' v.ownBlock → (v'.ownBlock = v.ownBlock ∨ v'.ownBlock = some w.heap.size) → wpList Try.prog ops Q rest (a.put o.dst v') w') : wpList Try.prog ops Q (o :: rest) a w := by
  obtain ⟨i0, hi, hz⟩ := Try.info_bytes
  simp only [Prod.mk.injEq] at hz
  obtain ⟨hz0, hz1, hz2⟩ := hz
  refine wpList_append_own_at w hgd s x 29 ho base 22 i0 (.slice none 0 0) 1 24 Try.underlying29 hi hz0 hz1 hz2 rfl (by decide) v xs.length (xs.map slv) hs hown ⟨g, 0, none⟩ 1 1 [slv y] hx rfl (fun j u hu => ?_) (fun u hu => ?_) (by unfold maxLen; omega) (by omega) hbase ?_
  · rw [Addr.add_lit, Nat.zero_add]
    match j, hu with
    | 0, hu => simp at hu; subst hu; exact hc
  · simp at hu
    subst hu
    rfl
  · intro v' w' h1 h2 _ h4
    refine h v' w' ?_ h2 h4
    unfold Owns
    rw [List.length_append, List.map_append]
    exact h1
/-- a slice of slices of bytes -/
structure LSrc (w : World) (v0 : Value) (ds : List (List Nat)) : Prop where
  form : ∃ A c, v0 = .slice A ds.length c ∧ ds.length ≤ c ∧ ∀ j, (hj : j < ds.length) → ∃ ad d, A = some ad ∧ w.cell? (ad.add j) = some d ∧ CSrc w d ds[j]
  small : ds.length ≤ 1000000
theorem LSrc.nix {w w' : World} {v : Value} {ds : List (List Nat)} (h : LSrc w v ds) (ho : Only Nix w w') : LSrc w' v ds := by
  obtain ⟨A, c, hv, hcap, hc⟩ := h.form
  refine ⟨⟨A, c, hv, hcap, fun j hj => ?_⟩, h.small⟩
  obtain ⟨ad, d, hA, hx, hs⟩ := hc j hj
  exact ⟨ad, d, hA, cell_keep ho hx, hs.nix ho⟩
theorem LSrc.slice {w : World} {v : Value} {ds : List (List Nat)} (h : LSrc w v ds) : ∃ A c, v = .slice A ds.length c := by
  obtain ⟨A, c, hv, _⟩ := h.form
  exact ⟨A, c, hv⟩
theorem LSrc.at_ {w : World} {A : Option Addr} {n c : Nat} {ds : List (List Nat)} (h : LSrc w (.slice A n c) ds) {k : Nat} (hk : k < ds.length) : ∃ ad B d, A = some ad ∧ w.cell? (ad.add k) = some (.slice B ds[k].length d) ∧ CSrc w (.slice B ds[k].length d) ds[k] := by
  obtain ⟨A', c', hv, _, hc⟩ := h.form
  injection hv with e1 _ _
  subst e1
  obtain ⟨ad, v, h1, h2, h3⟩ := hc k hk
  obtain ⟨B, d, rfl, hd⟩ := h3.form
  exact ⟨ad, B, d, h1, h2, h3⟩
theorem LSrc.len {w : World} {A : Option Addr} {n c : Nat} {ds : List (List Nat)} (h : LSrc w (.slice A n c) ds) : n = ds.length := by
  obtain ⟨A', c', hv, _⟩ := h.form
  injection hv
theorem LSrc.nil (w : World) : LSrc w (.slice none 0 0) [] := ⟨⟨none, 0, rfl, Nat.le_refl _, fun j hj => by simp at hj⟩, by simp⟩
theorem owns_lsrc {w : World} {base : Nat} {v : Value} {ss : List Sl} {ds : List (List Nat)} (h : Owns w base 22 slv v ss) (hl : ss.length = ds.length) (hs : ss.length ≤ 1000000) (hd : ∀ j, (h1 : j < ss.length) → (h2 : j < ds.length) → CSrc w (slv ss[j]) ds[j]) : LSrc w v ds := by
  obtain ⟨A, c, rfl⟩ := h.slice
  by_cases h0 : ss.length = 0
  · obtain rfl : ds = [] := List.eq_nil_of_length_eq_zero (by omega)
    rw [h0]
    refine ⟨⟨A, c, rfl, by simp, fun j hj => absurd hj (by simp)⟩, by simp⟩
  · obtain ⟨g, c', e, hle, _⟩ := h.cell (j := 0) (by omega)
    injection e with e1 _ e3
    subst e1 e3
    refine ⟨⟨_, c, by rw [hl], by omega, fun j hj => ⟨_, slv (ss[j]'(by omega)), rfl, ?_, hd j (by omega) hj⟩⟩, by omega⟩
    obtain ⟨g', c', e, _, hc⟩ := h.cell (j := j) (by omega)
    injection e with e1 _ _
    injection e1 with e1
    injection e1 with e1 _ _
    subst e1
    rw [Addr.add_lit, Nat.zero_add]
    exact hc
def PlI (w : World) (l : List Bk) (s4 s5 s6 : Value) (wr : World) : Prop := ∃ (j : Nat) (ss : List Sl), j ≤ l.length ∧ s6 = iv j ∧ Owns wr w.heap.size 3 iv s4 ((l.map (·.1)).take j) ∧ Owns wr w.heap.size 22 slv s5 ss ∧ ss.length = j ∧ (∀ i, (h1 : i < ss.length) → (h2 : i < l.length) → CSrc w (slv ss[i]) l[i].2) ∧ Only Nix w wr
set_option maxRecDepth 100000 in
set_option maxHeartbeats 8000000 in
theorem plain_any {w : World} {v : Value} {l : List Bk} (hs : BSrc w v l) (hn : l.length ≤ 100000) : Calls Try.prog 12 #[v] w fun e w' => ∃ v1 v2, e = .returned (.tuple #[v1, v2]) ∧ ISrc w' v1 (l.map (·.1)) ∧ LSrc w' v2 (l.map (·.2)) ∧ Only Nix w w' := by
  obtain ⟨A, c, rfl⟩ := hs.slice
  have hsm := hs.small
  have HS := Lib.hid hs
  clear hs
  go_enter Try.func12, Try.ntmps12
  go_wp2
  go_loopw [4, 5, 6] (fun s4 s5 s6 wr => PlI w l s4 s5 s6 wr) (fun _ _ s6 _ => l.length - (intOf s6).toNat)
  case atStart => exact ⟨0, [], Nat.zero_le _, rfl, Owns.nil _ _ _ _, Owns.nil _ _ _ _, rfl, (fun i h => absurd h (by simp)), Only.refl _ _⟩
  case round =>
    obtain ⟨j, ss, hj, rfl, h4, h5, hss, hcs, ho⟩ := hrel
    have H4 := Lib.hid h4
    have H5 := Lib.hid h5
    have HSs := Lib.hid hss
    have HCs := Lib.hid hcs
    have HO := Lib.hid ho
    have Hsz := Lib.hid ho.size
    clear h4 h5 hss hcs ho
    by_cases hlt : j < l.length
    · obtain ⟨ad, B, d, rfl, hx0, hx1, hd, hc⟩ := HS.out.at_ hlt
      replace hx0 := cell_keep HO.out hx0
      replace hx1 := cell_keep HO.out hx1
      have HX1 := Lib.hid hx1
      have hlti : (j : Int) < (l.length : Int) := by omega
      have HCj : Hid (CSrc w (slv (B, l[j].2.length, d)) l[j].2) := Lib.hid hc
      have HCs1 : Hid (∀ i, (h1 : i < (ss ++ [(B, l[j].2.length, d)]).length) → (h2 : i < l.length) → CSrc w (slv (ss ++ [(B, l[j].2.length, d)])[i]) l[i].2) := Lib.hid (fun i h1 h2 => by
        by_cases e : i < ss.length
        · rw [List.getElem_append_left e]; exact HCs.out i e h2
        · have : i = j := by simp at h1; have := HSs.out; omega
          subst this
          rw [List.getElem_append_right (by have := HSs.out; omega)]
          have e0 : i - ss.length = 0 := by have := HSs.out; omega
          simp only [e0, List.getElem_cons_zero]
          exact HCj.out)
      have HTk : Hid ((l.map (·.1)).take (j + 1) = (l.map (·.1)).take j ++ [l[j].1]) := Lib.hid (by rw [List.take_succ_eq_append_getElem (by rw [List.length_map]; exact hlt), List.getElem_map])
      have HL1 : Hid (((l.map (·.1)).take j).length ≤ 100000) := Lib.hid (by rw [List.length_take]; omega)
      have HL2 : Hid (ss.length ≤ 100000) := Lib.hid (by have := HSs.out; omega)
      generalize l[j].1 = t at *
      generalize l[j].2.length = N at *
      have HC0 : Hid ((wr.alloc (.cells #[iv t] 3)).cell? ⟨wr.heap.size, 0, none⟩ = some (iv t)) := Lib.hid ((Box.new wr 3 #[iv t]).cell 0)
      clear hc hd
      go_wp2_with (at_builtin; refine app_int rfl (.tmp 13) (.tmp 19) rfl w.heap.size u4 _ rfl ?own1 wr.heap.size t rfl HC0.out HL1.out ?base1 ?rest1)
      case own1 => exact H4.out.nix ((Only.refl Nix wr).alloc _)
      case base1 => have := Hsz.out; simp; omega
      case rest1 =>
        intro v4 w4 r4 g4 m4
        have HR4 := Lib.hid r4
        have ka : Only Nix wr (wr.alloc (.cells #[iv t] 3)) := (Only.refl Nix wr).alloc _
        have HR5 := Lib.hid ((H5.out.nix ka).kept (H4.out.nix ka) (by decide) g4)
        have HO4 := Lib.hid ((HO.out.alloc (.cells #[iv t] 3)).grown g4 (fun k e => .inr (H4.out.lt e).1))
        have hx4 : w4.cell? ⟨(ad.add (j * 2)).block, (ad.add (j * 2)).off + 1, none⟩ = some (.slice B N d) := by
          obtain ⟨ad', B', d', e', q0, q1, _, _⟩ := HS.out.at_ hlt
          injection e' with e'
          subst e'
          have q2 := cell_keep HO.out q1
          rw [HX1.out] at q2
          rw [cell_keep HO4.out q1, ← q2]
        have HC1 : Hid ((w4.alloc (.cells #[.slice B N d] 22)).cell? ⟨w4.heap.size, 0, none⟩ = some (slv (B, N, d))) := Lib.hid ((Box.new w4 22 #[.slice B N d]).cell 0)
        have Hsz4 := Lib.hid HO4.out.size
        clear r4 g4 m4 ka
        go_wp2_with (at_builtin; refine app_sl rfl (.tmp 21) (.tmp 27) rfl w.heap.size u5 ss rfl ?own2 w4.heap.size (B, N, d) rfl HC1.out HL2.out ?base2 ?rest2)
        case own2 => exact HR5.out.nix ((Only.refl Nix w4).alloc _)
        case base2 => have := Hsz4.out; simp; omega
        case rest2 =>
          intro v5 w5 r5 g5 m5
          have HS5 := Lib.hid r5
          have ka : Only Nix w4 (w4.alloc (.cells #[.slice B N d] 22)) := (Only.refl Nix w4).alloc _
          have HS4 := Lib.hid ((HR4.out.nix ka).kept (HR5.out.nix ka) (by decide) g5)
          have HO5 := Lib.hid ((HO4.out.alloc (.cells #[.slice B N d] 22)).grown g5 (fun k e => .inr (HR5.out.lt e).1))
          clear r5 g5 m5 ka
          go_wp2
          go_roundw
          case rel => exact ⟨j + 1, ss ++ [(B, N, d)], hlt, by go_num, by rw [HTk.out]; exact HS4.out, HS5.out, by simp; exact HSs.out, HCs1.out, HO5.out⟩
          case measure => simp [intOf]; omega
    · obtain rfl : j = l.length := by omega
      have hlti : ¬ ((l.length : Nat) : Int) < (l.length : Int) := by omega
      have HTk : Hid ((l.map (·.1)).take l.length = l.map (·.1)) := Lib.hid (List.take_of_length_le (by rw [List.length_map]; exact Nat.le_refl _))
      have HI : Hid (ISrc wr u4 (l.map (·.1))) := Lib.hid (by
        have := H4.out
        rw [HTk.out] at this
        exact this.ints (by rw [List.length_map]; omega) (fun x hx => by
          obtain ⟨p, hp, rfl⟩ := List.mem_map.1 hx
          exact HS.out.fits p hp))
      have HLs : Hid (LSrc wr u5 (l.map (·.2))) := Lib.hid (owns_lsrc H5.out (by rw [List.length_map]; exact HSs.out) (by have := HSs.out; omega) (fun j h1 h2 => by
        rw [List.getElem_map]
        exact (HCs.out j h1 (by have := HSs.out; omega)).nix HO.out))
      go_wp2
      go_ret2
      exact ⟨_, _, rfl, HI.out, HLs.out, HO.out⟩
end Go.Proofs.Ytighdjbeddcckaa
