/-
  Comments: With.
-/
import Derived.Test.YtphpciglpnbblaaDoorTQ1
import Derived.Test.YtphpciglpnbblaaDoorTI
import Derived.Laws.ResultCell
namespace Go.Proofs.YtphpciglpnbblaaDoor
open Go.RowKit Go.Shelf

abbrev cmT : TypeId := 24
/-- what the result's box holds: nothing yet, or comments -/
structure WiS (W1 : World) (b4 : Nat) (V : ByteArray) (R : List ByteArray) (L : Nat → Bool) (u : World) : Prop where
  only : Only Nix W1 u
  zero : L 8 = false → Box u b4 cmT #[.string ⟨#[]⟩, .slice none 0 0]
  full : L 8 = true → ∃ x, Box u b4 cmT #[.string V, x] ∧ SSrc u x R
theorem WiS.keep {W1 u u' : World} {b4 : Nat} {V : ByteArray} {R : List ByteArray} {L : Nat → Bool} (h : WiS W1 b4 V R L u) (ho : Only Nix u u') (i : Nat) (hi : 8 ≠ i) : WiS W1 b4 V R (andOne L i) u' :=
  ⟨h.only.trans ho, fun e => (h.zero (by rwa [andOne_ne hi] at e)).only ho (fun e => e), fun e => by
    obtain ⟨x, hb, hs⟩ := h.full (by rwa [andOne_ne hi] at e)
    exact ⟨x, hb.only ho (fun e => e), hs.nix ho⟩⟩
/-- a value whose memory is not block b -/
def NotIn (v : Value) (b : Nat) : Prop := ∀ ad n c, v = .slice (some ad) n c → ad.block ≠ b
theorem SSrc.off {u u' : World} {v : Value} {l : List ByteArray} {b : Nat} (h : SSrc u v l) (ho : Only (Just b) u u') (hn : NotIn v b) : SSrc u' v l :=
  h.only ho (fun i _ hi ad n c e he => hn ad n c e (by rw [he]; exact hi))
def WtP (w : World) (V : ByteArray) (R : List ByteArray) (e : Ending) (w' : World) : Prop := (∃ x, e = .returned (cmV V x) ∧ SSrc w' x R) ∧ Only Nix w w'
theorem results_cm1 {fn : Func} {p : Tmp} (h : fn.results = #[.cell p 24]) (tmps : Array Value) (w : World) (g : Nat) (x y : Value) (hp : tmps.getD p undef = .pointer (some ⟨g, 0, none⟩)) (hB : Box w g 24 #[x, y]) :
    (results fn tmps).run Tryd.prog w = .ok (.agg #[x, y]) w := by
  have h1 : (loadVar 24 ⟨g, 0, none⟩).run Tryd.prog w = .ok (.agg #[x, y]) w := run_loadVar_row w g _ _ _ (0, 0) _ hB Tryd.underlying24 rfl (by kernel_rfl)
  have hp' : tmps[p]?.getD undef = .pointer (some ⟨g, 0, none⟩) := by simpa using hp
  simp [results, h, hp', asAddr, h1]
set_option maxRecDepth 100000 in
set_option maxHeartbeats 8000000 in
theorem with_any {w : World} {V : ByteArray} {x y : Value} {l m : List ByteArray} (hx : SSrc w x l) (hy : SSrc w y m) (hl : l.length ≤ 10000) (hm : m.length ≤ 10000) :
    Calls Tryd.prog 22 #[cmV V x, y] w fun e w' => WtP w V (l ++ m) e w' := by
  obtain ⟨A, c, rfl, _⟩ := hx.slice
  obtain ⟨B, d, rfl, _⟩ := hy.slice
  obtain ⟨W1, hW1⟩ : ∃ W1, w.alloc (.cells #[.string V, .slice A l.length c] 24) = W1 := ⟨_, rfl⟩
  have b1 := Box.new w 24 #[.string V, .slice A l.length c]
  have o1 := (Only.refl Nix w).alloc (.cells #[.string V, .slice A l.length c] 24)
  rw [hW1] at b1 o1
  obtain ⟨W2, hW2⟩ : ∃ W2, W1.alloc (.cells #[.string ⟨#[]⟩, .slice none 0 0] 24) = W2 := ⟨_, rfl⟩
  have b2 := Box.new W1 24 #[.string ⟨#[]⟩, .slice none 0 0]
  have o2 := (Only.refl Nix W1).alloc (.cells #[.string ⟨#[]⟩, .slice none 0 0] 24)
  rw [hW2] at b2 o2
  have c0 := b1.cell 0
  have c1 := b1.cell 1
  simp only [List.getElem?_toArray, List.getElem?_cons_zero, List.getElem?_cons_succ] at c0 c1
  obtain ⟨b4, hb4⟩ : ∃ b4, W1.heap.size = b4 := ⟨_, rfl⟩
  rw [hb4] at b2
  have HX := Lib.hid (hx.nix o1)
  have HY := Lib.hid (hy.nix o1)
  have HO1 := Lib.hid o1
  have HB2 := Lib.hid b2
  have HO2 := Lib.hid o2
  have C0 := Lib.hid c0
  have C1 := Lib.hid c1
  have H4 := Lib.hid hb4
  have HCc : Hid (∀ u g, Only Nix W1 u → u.cell? ⟨g, 0, none⟩ = some (.slice A l.length c) → u.cell? ⟨g, 1, none⟩ = some (.slice B m.length d) → Calls Tryd.prog 45 #[.slice (some ⟨g, 0, none⟩) 2 2] u fun e w' => CcR u (l ++ m) e w') := Lib.hid (fun u g hu h0 h1 => concat_any h0 h1 (HX.out.nix hu) (HY.out.nix hu) hl hm)
  have HLn : Hid ((l ++ m).length ≤ 140737488355328) := Lib.hid (by rw [List.length_append]; omega)
  generalize l ++ m = R at *
  generalize l.length = nl at *
  generalize m.length = nm at *
  clear hx hy b1 o1 b2 o2 c0 c1 hl hm
  obtain ⟨b2, hb2⟩ : ∃ b2, w.heap.size = b2 := ⟨_, rfl⟩
  rw [hb2] at C0 C1
  go_enter Tryd.func22, Tryd.ntmps22
  go_wp2_with fail
  have fr_W : ∀ j s, j < 9 → (([some 5, some 6, some 7, some 8, some 9, some 10, some 11, some 12, none] : List (Option Nat)).all fun d => d != some s) = true → ([some 5, some 6, some 7, some 8, some 9, some 10, some 11, some 12, none] : List (Option Nat)).getD j none ≠ some s := by
    intro j s hj ha e
    rw [List.getD_eq_getElem?_getD, List.getElem?_eq_getElem (by exact hj), Option.getD_some] at e
    have := List.all_eq_true.1 ha _ (List.getElem_mem (by exact hj))
    rw [e] at this
    simp at this
  refine region_tel (by kernel_rfl) (fun k0 => ([some 5, some 6, some 7, some 8, some 9, some 10, some 11, some 12, none] : List (Option Nat)).getD k0 none) (PL [eqP (.pointer (some ⟨b2, 0, none⟩)), eqP (.string V), eqP (.pointer (some ⟨b2, 1, none⟩)), eqP (.slice A nl c), eqP (.slice B nm d), (fun v u => ∃ g, v = .slice (some ⟨g, 0, none⟩) 2 2 ∧ u.cell? ⟨g, 0, none⟩ = some (.slice A nl c) ∧ u.cell? ⟨g, 1, none⟩ = some (.slice B nm d) ∧ g ≠ b4), (fun v u => SSrc u v R ∧ NotIn v b4), (fun v u => ∃ x, v = .agg #[.string V, x] ∧ SSrc u x R ∧ NotIn x b4), (fun _ _ => True)]) (fun u u' => Only (Just b4) u u') (fun L u => WiS W1 b4 V R L u) 13 9 rfl (by kernel_rfl) (by kernel_rfl) rfl (by kernel_rfl) (by kernel_rfl) (stab_all ⟨fun _ _ _ h _ => h, fun _ _ _ h _ => h, fun _ _ _ h _ => h, fun _ _ _ h _ => h, fun _ _ _ h _ => h, (fun v u u' h ho => by obtain ⟨g, e, h0, h1, hg⟩ := h; exact ⟨g, e, cell_only ho h0 (fun k => hg k), cell_only ho h1 (fun k => hg k), hg⟩), (fun v u u' h ho => ⟨h.1.off ho h.2, h.2⟩), (fun v u u' h ho => by obtain ⟨x, e, h1, h2⟩ := h; exact ⟨x, e, h1.off ho h2, h2⟩), fun _ _ _ h _ => h, trivial⟩) (⟨HO2.out.drew, fun _ => HB2.out, fun e => by cases e⟩) ?stepsW (fun vs => [(5, vs 0), (6, vs 1), (7, vs 2), (8, vs 3), (9, vs 4), (10, vs 5), (11, vs 6), (12, vs 7)]) (fun vs => rfl) ?doneW
  case stepsW =>
    refine ⟨?_, ?_, ?_, ?_, ?_, ?_, ?_, ?_, ?_, trivial⟩
    · intro L vs A' u hW hL0 hnd K' hK
      have hS := hW.wi.s
      have r2 : A'.tmps[2]? = some (.pointer (some ⟨b2, 0, none⟩)) := (hW.out 2 (fun j hj => fr_W j 2 hj (by kernel_rfl))).trans rfl
      go_simp
      exact hK _ _ (by first | rfl | (show _ = _; simp)) (Only.refl _ _) (hS.keep (Only.refl _ _) 0 (by decide))
    · intro L vs A' u hW hL0 hnd K' hK
      have hS := hW.wi.s
      have r5 : A'.tmps[5]? = some (.pointer (some ⟨b2, 0, none⟩)) := by
        obtain ⟨x, e, h⟩ := hW.tel 0 5 (by decide) (hnd 0 (by kernel_rfl)) rfl
        rw [e]; exact congrArg some h
      have k0 := cell_keep hS.only C0.out
      go_simp
      exact hK _ _ (by first | rfl | (show _ = _; simp)) (Only.refl _ _) (hS.keep (Only.refl _ _) 1 (by decide))
    · intro L vs A' u hW hL0 hnd K' hK
      have hS := hW.wi.s
      have r2 : A'.tmps[2]? = some (.pointer (some ⟨b2, 0, none⟩)) := (hW.out 2 (fun j hj => fr_W j 2 hj (by kernel_rfl))).trans rfl
      go_simp
      exact hK _ _ (by first | rfl | (show _ = _; simp)) (Only.refl _ _) (hS.keep (Only.refl _ _) 2 (by decide))
    · intro L vs A' u hW hL0 hnd K' hK
      have hS := hW.wi.s
      have r7 : A'.tmps[7]? = some (.pointer (some ⟨b2, 1, none⟩)) := by
        obtain ⟨x, e, h⟩ := hW.tel 2 7 (by decide) (hnd 2 (by kernel_rfl)) rfl
        rw [e]; exact congrArg some h
      have k1 := cell_keep hS.only C1.out
      go_simp
      exact hK _ _ (by first | rfl | (show _ = _; simp)) (Only.refl _ _) (hS.keep (Only.refl _ _) 3 (by decide))
    · intro L vs A' u hW hL0 hnd K' hK
      have hS := hW.wi.s
      have r1 : A'.tmps[1]? = some (.slice B nm d) := (hW.out 1 (fun j hj => fr_W j 1 hj (by kernel_rfl))).trans rfl
      go_simp
      exact hK _ _ (by first | rfl | (show _ = _; simp)) (Only.refl _ _) (hS.keep (Only.refl _ _) 4 (by decide))
    · intro L vs A' u hW hL0 hnd K' hK
      have hS := hW.wi.s
      have r8 : A'.tmps[8]? = some (.slice A nl c) := by
        obtain ⟨x, e, h⟩ := hW.tel 3 8 (by decide) (hnd 3 (by kernel_rfl)) rfl
        rw [e]; exact congrArg some h
      have r9 : A'.tmps[9]? = some (.slice B nm d) := by
        obtain ⟨x, e, h⟩ := hW.tel 4 9 (by decide) (hnd 4 (by kernel_rfl)) rfl
        rw [e]; exact congrArg some h
      have hlt := hS.only.size
      have ho := (Only.refl Nix u).alloc (.cells #[.slice A nl c, .slice B nm d] 22)
      have hbx := Box.new u 22 #[.slice A nl c, .slice B nm d]
      have h4 : b4 < u.heap.size := by
        cases h8 : L 8 with
        | false => exact (hS.zero h8).lt
        | true => obtain ⟨x, hb, _⟩ := hS.full h8; exact hb.lt
      go_simp
      exact hK _ _ ⟨u.heap.size, rfl, hbx.cell 0, hbx.cell 1, by omega⟩ (ho.nix) (hS.keep ho 5 (by decide))
    · intro L vs A' u hW hL0 hnd K' hK
      have hS := hW.wi.s
      obtain ⟨x, e, g, rfl, h0, h1, hg⟩ := hW.tel 5 10 (by decide) (hnd 5 (by kernel_rfl)) rfl
      have r10 : A'.tmps[10]? = some (.slice (some ⟨g, 0, none⟩) 2 2) := e
      have h4 : b4 < u.heap.size := by
        cases h8 : L 8 with
        | false => exact (hS.zero h8).lt
        | true => obtain ⟨x, hb, _⟩ := hS.full h8; exact hb.lt
      have hcc := HCc.out u g hS.only h0 h1
      go_simp
      refine (hcc).mono ?_
      rintro e u2 ⟨⟨v, rfl, hown⟩, ho⟩
      refine hK _ _ ⟨hown.texts HLn.out, fun ad n c e => ?_⟩ ho.nix (hS.keep ho 6 (by decide))
      rcases hown.2 with ⟨e1, _⟩ | ⟨g', cap, cur, e1, hb, _⟩
      · rw [e1] at e; cases e
      · rw [e1] at e
        injection e with e _ _
        injection e with e
        rw [← e]
        show g' ≠ b4
        omega
    · intro L vs A' u hW hL0 hnd K' hK
      have hS := hW.wi.s
      have r6 : A'.tmps[6]? = some (.string V) := by
        obtain ⟨x, e, h⟩ := hW.tel 1 6 (by decide) (hnd 1 (by kernel_rfl)) rfl
        rw [e]; exact congrArg some h
      obtain ⟨x, e, h1, h2⟩ := hW.tel 6 11 (by decide) (hnd 6 (by kernel_rfl)) rfl
      obtain ⟨A7, c7, rfl, _⟩ := h1.slice
      have r11 : A'.tmps[11]? = some (.slice A7 R.length c7) := e
      go_simp
      exact hK _ _ ⟨_, rfl, h1, h2⟩ (Only.refl _ _) (hS.keep (Only.refl _ _) 7 (by decide))
    · intro L vs A' u hW hL0 hnd K' hK
      have hS := hW.wi.s
      have r4 : A'.tmps[4]? = some (.pointer (some ⟨b4, 0, none⟩)) := (hW.out 4 (fun j hj => fr_W j 4 hj (by kernel_rfl))).trans rfl
      obtain ⟨v, e, x, rfl, h1, h2⟩ := hW.tel 7 12 (by decide) (hnd 7 (by kernel_rfl)) rfl
      have r12 : A'.tmps[12]? = some (.agg #[.string V, x]) := e
      have hz := hS.zero hL0
      obtain ⟨A7, c7, rfl, _⟩ := h1.slice
      have z0 := hz.frozen 0
      have z1 := hz.frozen 1
      have k0 := hz.cell 0
      have k1 := hz.cell 1
      simp only [List.getElem?_toArray, List.getElem?_cons_zero, List.getElem?_cons_succ] at k0 k1
      have ho := ((Only.refl (Just b4) u).setCell (p := ⟨b4, 0, none⟩) (.inl rfl) (.string V)).setCell (p := ⟨b4, 1, none⟩) (.inl rfl) (.slice A7 R.length c7)
      have hbx := box_two hz (.string V) (.slice A7 R.length c7)
      go_simp
      refine hK undef _ trivial ho ⟨hS.only.then ho (fun i hi => .inr (by rw [H4.out, show i = b4 from hi]; exact Nat.le_refl _)), (fun e => by rw [andOne_self] at e; cases e), fun _ => ⟨_, hbx, h1.off ho h2⟩⟩
  case doneW =>
    intro L vs u hS hP hall
    obtain ⟨x, hbx, hs⟩ := hS.full (hall 8 (by decide))
    have hoN := hS.only
    have HF : Hid (WtP w V R (.returned (cmV V x)) u) := Lib.hid ⟨⟨x, rfl, hs⟩, HO1.out.trans hoN⟩
    clear hS hP hall hs hoN fr_W
    simp only [putV, List.foldl_cons, List.foldl_nil, List.setIfInBounds_toArray, List.set_cons_zero, List.set_cons_succ]
    go_wp2
    refine bodyPost_ret (v := .agg #[.string V, x]) (results_cm1 rfl _ _ b4 _ _ rfl hbx) rfl ?_
    exact HF.out
end Go.Proofs.YtphpciglpnbblaaDoor
