/-
  Comments: ReadComments.
-/
import Derived.Test.YtphpciglpnbblaaDoorTE
import Derived.Test.YtphpciglpnbblaaDoorTH
import Derived.Laws.ResultCell
namespace Go.Proofs.YtphpciglpnbblaaDoor
open Go.RowKit Go.Shelf

theorem results_cm {fn : Func} {p q : Tmp} (h : fn.results = #[.cell p 24, .tmp q]) (tmps : Array Value) (w : World) (g : Nat) (x y v : Value) (hp : tmps.getD p undef = .pointer (some ⟨g, 0, none⟩)) (hB : Box w g 24 #[x, y]) (hq : tmps.getD q undef = v) :
    (results fn tmps).run Tryd.prog w = .ok (.tuple #[.agg #[x, y], v]) w := by
  have h1 : (loadVar 24 ⟨g, 0, none⟩).run Tryd.prog w = .ok (.agg #[x, y]) w := run_loadVar_row w g _ _ _ (0, 0) _ hB Tryd.underlying24 rfl (by kernel_rfl)
  have hp' : tmps[p]?.getD undef = .pointer (some ⟨g, 0, none⟩) := by simpa using hp
  have hq' : tmps[q]?.getD undef = v := by simpa using hq
  simp [results, h, hp', hq', asAddr, h1]
theorem box_two {w : World} {g : Nat} {x0 y0 : Value} (h : Box w g 24 #[x0, y0]) (x y : Value) : Box ((w.setCell ⟨g, 0, none⟩ x).setCell ⟨g, 1, none⟩ y) g 24 #[x, y] := (h.put 0 x).put 1 y
/-- what comments are read: texts, what is left, whether bytes ran out -/
def rdR (bs : List Nat) : List (List Nat) × List Nat × Bool := lsF lv (lv (tkB 4 (txR lv bs))) (txS lv bs || decide ((txR lv bs).length < 4)) (tkR 4 (txR lv bs))
def rdV (bs : List Nat) : ByteArray := strN (txB lv bs)
def rdL (bs : List Nat) : List ByteArray := (rdR bs).1.map strN
def rdE (bs : List Nat) : Int := if (rdR bs).2.2 = true then 11 else if 0 < (rdR bs).2.1.length then 12 else ckE (rdV bs) (rdL bs)
theorem tkB_le (m : Nat) (rest : List Nat) : (tkB m rest).length + (tkR m rest).length ≤ rest.length := by
  rw [tkB_len, tkR_len]
  split <;> omega
theorem txB_le (num : List Nat → Nat) (rest : List Nat) : (txB num rest).length + (txR num rest).length ≤ rest.length := by
  have h1 := tkB_le 4 rest
  have h2 := tkB_le (num (tkB 4 rest)) (tkR 4 rest)
  unfold txB txR
  omega
theorem txB_le4 (num : List Nat → Nat) (rest : List Nat) (h : txS num rest = false) : 4 + (txB num rest).length + (txR num rest).length ≤ rest.length := by
  unfold txS at h
  rw [Bool.or_eq_false_iff, decide_eq_false_iff_not, decide_eq_false_iff_not] at h
  have h2 := tkB_le (num (tkB 4 rest)) (tkR 4 rest)
  have h1 : (tkR 4 rest).length = rest.length - 4 := by rw [tkR_len, if_neg h.1]
  unfold txB txR
  omega
theorem lsF_sz (num : List Nat → Nat) : ∀ (k : Nat) (s : Bool) (r : List Nat), szL ((lsF num k s r).1.map strN) ≤ r.length
  | 0, s, r => Nat.zero_le _
  | k + 1, s, r => by
    by_cases h : (s || txS num r) = true
    · rw [lsF_stop num k s r h]
      exact Nat.zero_le _
    · have h' : (s || txS num r) = false := by simpa using h
      rw [lsF_go num k s r h']
      have h3 := lsF_sz num k false (txR num r)
      have h4 := txB_le4 num r (by rw [Bool.or_eq_false_iff] at h'; exact h'.2)
      simp only [List.map_cons]
      have h5 : ∀ (t : ByteArray) (l : List ByteArray), szL (t :: l) = 4 + t.size + szL l := fun t l => by simp [szL]
      rw [h5, strN_size]
      omega
theorem rd_sz (bs : List Nat) : (rdV bs).size ≤ bs.length ∧ szL (rdL bs) ≤ bs.length := by
  have h1 := txB_le lv bs
  have h2 := tkB_le 4 (txR lv bs)
  have h3 := lsF_sz lv (lv (tkB 4 (txR lv bs))) (txS lv bs || decide ((txR lv bs).length < 4)) (tkR 4 (txR lv bs))
  refine ⟨by unfold rdV; rw [strN_size]; omega, ?_⟩
  unfold rdL rdR
  omega
/-- what ReadComments answers -/
def RcR (w : World) (bs : List Nat) (e : Ending) (w' : World) : Prop :=
  (∃ v, e = .returned (.tuple #[cmV (if rdE bs = 0 then rdV bs else ⟨#[]⟩) v, iv (rdE bs)]) ∧ SSrc w' v (if rdE bs = 0 then rdL bs else [])) ∧ Only Nix w w'
theorem ls_len (l : List ByteArray) : l.length ≤ szL l := by
  induction l with
  | nil => simp
  | cons s l ih => simp [szL] at *; omega
set_option maxRecDepth 100000 in
set_option maxHeartbeats 8000000 in
theorem readC_any {w : World} {x : Value} {bs : List Nat} (hs : CSrc w x bs) (hN : bs.length ≤ 80000) (hT : Tabs w) :
    Calls Tryd.prog 12 #[x] w fun e w' => RcR w bs e w' := by
  obtain ⟨A, c, rfl, hcap⟩ := hs.form
  have hsm := hs.src.small
  have HT := Lib.hid hT
  obtain ⟨W1, hW1⟩ : ∃ W1, w.alloc (.cells #[.string ⟨#[]⟩, .slice none 0 0] 24) = W1 := ⟨_, rfl⟩
  have b1 := Box.new w 24 #[.string ⟨#[]⟩, .slice none 0 0]
  have o1 := (Only.refl Nix w).alloc (.cells #[.string ⟨#[]⟩, .slice none 0 0] 24)
  rw [hW1] at b1 o1
  obtain ⟨W2, hW2⟩ : ∃ W2, W1.alloc (.cells #[.slice A bs.length c, .bool false, .bool false] 62) = W2 := ⟨_, rfl⟩
  have r2 := Box.new W1 62 #[.slice A bs.length c, .bool false, .bool false]
  have b2 := b1.alloc (.cells #[.slice A bs.length c, .bool false, .bool false] 62)
  have o2 := (Only.refl Nix W1).alloc (.cells #[.slice A bs.length c, .bool false, .bool false] 62)
  rw [hW2] at r2 b2 o2
  have HR2 : Rd W2 W1.heap.size bs false false := ⟨⟨_, r2, (hs.nix o1).nix o2, fun h0 ad n c' e => by
    injection e with e _ _
    subst e
    obtain ⟨ad', e, hx⟩ := (hs.nix o1).src.at_ (k := 0) h0
    injection e with e
    subst e
    have := World.block_lt_of_cell? W1 _ hx
    rwa [add_block] at this⟩⟩
  obtain ⟨W3, hW3⟩ : ∃ W3, W2.alloc (.cells #[.string ⟨#[]⟩, .slice none 0 0] 24) = W3 := ⟨_, rfl⟩
  have d3 := Box.new W2 24 #[.string ⟨#[]⟩, .slice none 0 0]
  have b3 := b2.alloc (.cells #[.string ⟨#[]⟩, .slice none 0 0] 24)
  have o3 := (Only.refl Nix W2).alloc (.cells #[.string ⟨#[]⟩, .slice none 0 0] 24)
  rw [hW3] at d3 b3 o3
  have HR3 := HR2.nix o3
  have HTx := Lib.hid (text_any reads_low HR3)
  have hlt1 : w.heap.size < W1.heap.size := b1.lt
  have hlt2 : W1.heap.size < W2.heap.size := r2.lt
  have HO3 : Hid (Only Nix w W3) := Lib.hid (o1.trans (o2.trans o3))
  have HB3 := Lib.hid b3
  have HD3 := Lib.hid d3
  have hz1 := (rd_sz bs).1
  have hz2 := (rd_sz bs).2
  have HL : Hid (∀ u, Rd u W1.heap.size (txR lv bs) (txS lv bs) false → Calls Tryd.prog 31 #[.pointer (some ⟨W1.heap.size, 0, none⟩), mv 30 W1.heap.size, mv 32 W1.heap.size] u fun e w' => LsR u W1.heap.size (rdR bs) false e w') := Lib.hid (fun u hu => list_any hu (by have := txB_le lv bs; omega))
  have HRcE : Hid (∀ w', Box w' w.heap.size 24 #[.string ⟨#[]⟩, .slice none 0 0] → rdE bs ≠ 0 → Only Nix w w' → RcR w bs (.returned (.tuple #[.agg #[.string ⟨#[]⟩, .slice none 0 0], iv (rdE bs)])) w') := Lib.hid (fun w' _ he ho => ⟨⟨.slice none 0 0, by rw [if_neg he], by rw [if_neg he]; exact SSrc.nil _⟩, ho⟩)
  have HRcG : Hid (∀ w' v, SSrc w' v (rdL bs) → rdE bs = 0 → Only Nix w w' → RcR w bs (.returned (.tuple #[.agg #[.string (rdV bs), v], iv 0])) w') := Lib.hid (fun w' v hv he ho => ⟨⟨v, by rw [he, if_pos rfl], by rw [if_pos he]; exact hv⟩, ho⟩)
  have HE : Hid (rdE bs = if (if (rdR bs).2.2 = true then (11 : Int) else if false = true ∨ 0 < (rdR bs).2.1.length then 12 else 0) = 0 then ckE (rdV bs) (rdL bs) else (if (rdR bs).2.2 = true then (11 : Int) else if false = true ∨ 0 < (rdR bs).2.1.length then 12 else 0)) := Lib.hid (by
    unfold rdE
    by_cases h : (rdR bs).2.2 = true
    · simp [h]
    · by_cases h2 : 0 < (rdR bs).2.1.length
      · simp [h, h2]
      · simp [h, h2])
  have hlLen : (rdL bs).length ≤ 80000 := by have := ls_len (rdL bs); omega
  have hrdL : (rdR bs).1.map strN = rdL bs := rfl
  have hrdV : strN (txB lv bs) = rdV bs := rfl
  unfold TxR at HTx
  rw [hrdV, Bool.false_or] at HTx
  unfold LsR at HL
  rw [hrdL] at HL
  clear b1 o1 r2 b2 o2 HR2 d3 b3 o3 HR3 hs hT hrdL hrdV
  generalize txR lv bs = rr at *
  generalize txS lv bs = ss at *
  generalize rdL bs = LL at *
  generalize rdV bs = VV at *
  generalize rdR bs = RR at *
  generalize rdE bs = EE at *
  generalize RcR w bs = QQ at *
  generalize hE1 : (if RR.2.2 = true then (11 : Int) else if false = true ∨ 0 < RR.2.1.length then 12 else 0) = E1 at HE
  have HE1 := Lib.hid hE1
  obtain ⟨CK, hCK⟩ : ∃ CK, ckE VV LL = CK := ⟨_, rfl⟩
  rw [hCK] at HE
  have HCK := Lib.hid hCK
  obtain ⟨kb, hkb⟩ : ∃ kb, W1.heap.size = kb := ⟨_, rfl⟩
  obtain ⟨kc, hkc⟩ : ∃ kc, W2.heap.size = kc := ⟨_, rfl⟩
  obtain ⟨kr, hkr⟩ : ∃ kr, w.heap.size = kr := ⟨_, rfl⟩
  rw [hkb] at HTx HL hlt1 hlt2
  rw [hkc] at HD3 hlt2
  rw [hkr] at HB3 hlt1 HRcE
  have HRr := Lib.hid hkr
  clear hE1 hCK hcap
  have hen1 : ∀ args w, (callFunc 34 args).run Tryd.prog w = .ok (.enter 34 args) w := enters_of Tryd.func34 (by kernel_rfl) rfl
  have hen2 : ∀ args w, (callFunc 24 args).run Tryd.prog w = .ok (.enter 24 args) w := enters_of Tryd.func24 (by kernel_rfl) rfl
  have Hen1 := Lib.hid hen1
  have Hen2 := Lib.hid hen2
  clear hen1 hen2
  go_enter Tryd.func12, Tryd.ntmps12
  go_wp2_with fail
  refine (HTx.out).mono ?_
  rintro e w4 ⟨rfl, hr4, ho4⟩
  have HR4 := Lib.hid hr4
  have HO4 := Lib.hid ho4
  have hd4 := HD3.out.only ho4 (fun e => by have : kc = kb := e; omega)
  have hb4 := HB3.out.only ho4 (fun e => by have : kr = kb := e; omega)
  have HD4 := Lib.hid hd4
  have HB4 := Lib.hid hb4
  have z0 := hd4.frozen 0
  have c0 := hd4.cell 0
  simp only [List.getElem?_toArray, List.getElem?_cons_zero] at c0
  obtain ⟨W5, hW5⟩ : ∃ W5, w4.setCell ⟨kc, 0, none⟩ (.string VV) = W5 := ⟨_, rfl⟩
  have o5 : Only (Just kc) w4 W5 := hW5 ▸ (Only.refl (Just kc) w4).setCell (p := ⟨kc, 0, none⟩) (.inl rfl) (.string VV)
  have hd5 : Box W5 kc 24 #[.string VV, .slice none 0 0] := hW5 ▸ hd4.put 0 (.string VV)
  have HD5 := Lib.hid hd5
  have HB5 := Lib.hid (hb4.only o5 (fun e => by have : kr = kc := e; omega))
  have HR5 := Lib.hid (hr4.up o5 (fun k hk => by rw [show k = kc from hk]; exact hlt2))
  have HO5 := Lib.hid o5
  have HL5 := Lib.hid (HL.out W5 HR5.out)
  clear hr4 ho4 hd4 hb4 o5 hd5 HL HTx
  go_wp2_with fail
  refine (HL5.out).mono ?_
  rintro e w6 ⟨⟨v, rfl, hown⟩, hr6, ho6⟩
  obtain ⟨A6, c6, rfl⟩ := hown.slice
  have HKr : Hid (∀ ad n c, Value.slice A6 LL.length c6 = .slice (some ad) n c → kr < ad.block) := Lib.hid (fun ad n c e => by
    have h2 := HB5.out.lt
    rcases hown.2 with ⟨e1, _⟩ | ⟨g, cap, cur, e1, hb, _⟩
    · rw [e1] at e; cases e
    · rw [e1] at e
      injection e with e _ _
      injection e with e
      rw [← e]
      show kr < g
      omega)
  have hS6 := hown.texts (by omega)
  have hb6 := HB5.out.only ho6 (fun e => by have : kr = kb := e; omega)
  have hd6 := HD5.out.only ho6 (fun e => by have : kc = kb := e; omega)
  have z1 := hd6.frozen 1
  have c1 := hd6.cell 1
  simp only [List.getElem?_toArray, List.getElem?_cons_zero, List.getElem?_cons_succ] at c1
  obtain ⟨W7, hW7⟩ : ∃ W7, w6.setCell ⟨kc, 1, none⟩ (.slice A6 LL.length c6) = W7 := ⟨_, rfl⟩
  have o7 : Only (Just kc) w6 W7 := hW7 ▸ (Only.refl (Just kc) w6).setCell (p := ⟨kc, 1, none⟩) (.inl rfl) (.slice A6 LL.length c6)
  have hd7 : Box W7 kc 24 #[.string VV, .slice A6 LL.length c6] := hW7 ▸ hd6.put 1 (.slice A6 LL.length c6)
  have hb7 := hb6.only o7 (fun e => by have : kr = kc := e; omega)
  have hO7 : Owns W7 W5.heap.size 9 Value.string (.slice A6 LL.length c6) LL := owns_only hown o7 (fun g hg e => by
    have h1 := (hown.lt hg).1
    have h2 := HD5.out.lt
    have : g = kc := e
    omega)
  have hS7 : SSrc W7 (.slice A6 LL.length c6) LL := hO7.texts (by omega)
  have hr7 := hr6.up o7 (fun k hk => by rw [show k = kc from hk]; exact hlt2)
  have HON7 : Hid (Only Nix w W7) := Lib.hid (by
    have h1 : Only (fun k => k = kb ∨ k = kc) W3 W7 := (HO4.out.mono (fun k hk => .inl hk)).trans ((HO5.out.mono (fun k hk => .inr hk)).trans ((ho6.mono (fun k hk => .inl hk)).trans (o7.mono (fun k hk => .inr hk))))
    exact HO3.out.then h1 (fun k hk => .inr (by rw [HRr.out]; rcases hk with e | e <;> omega)))
  obtain ⟨W8, hW8⟩ : ∃ W8, W7.alloc (.cells #[fv 34 (.pointer (some ⟨kb, 0, none⟩)), fv 24 (.agg #[.string VV, .slice A6 LL.length c6])] 55) = W8 := ⟨_, rfl⟩
  have l8 := Box.new W7 55 #[fv 34 (.pointer (some ⟨kb, 0, none⟩)), fv 24 (.agg #[.string VV, .slice A6 LL.length c6])]
  have o8 := (Only.refl Nix W7).alloc (.cells #[fv 34 (.pointer (some ⟨kb, 0, none⟩)), fv 24 (.agg #[.string VV, .slice A6 LL.length c6])] 55)
  rw [hW8] at l8 o8
  have HF8 := Lib.hid (first_any (E1 := E1) (E2 := CK) (l8.cell 0) (l8.cell 1) Hen1.out Hen2.out (fun u hu => by
    rw [← HE1.out]
    exact end_any ((hr7.nix o8).nix hu)) (fun u hu => by
    rw [← HCK.out]
    exact check_any ((hS7.nix o8).nix hu) (by omega) (by omega) (HT.out.nix (HON7.out.trans (o8.trans hu)))))
  rw [← HE.out] at HF8
  have HS8 := Lib.hid (hS7.nix o8)
  have HD8 := Lib.hid (hd7.only o8 (fun e => e))
  have HB8 := Lib.hid (hb7.only o8 (fun e => e))
  have HON8 := Lib.hid (HON7.out.trans o8)
  have d0 := hd7.cell 0
  have d1 := hd7.cell 1
  simp only [List.getElem?_toArray, List.getElem?_cons_zero, List.getElem?_cons_succ] at d0 d1
  clear hown hr6 ho6 hS6 hb6 hd6 o7 hd7 hb7 hS7 hO7 hr7 l8 o8 HL5
  go_wp2_with fail
  refine (HF8.out).mono ?_
  rintro e w9 ⟨rfl, ho9⟩
  have HS9 := Lib.hid (HS8.out.nix ho9)
  have hd9 := HD8.out.only ho9 (fun e => e)
  have hb9 := HB8.out.only ho9 (fun e => e)
  have HB9 := Lib.hid hb9
  have HON9 := Lib.hid (HON8.out.trans ho9)
  have e0 := hd9.cell 0
  have e1 := hd9.cell 1
  have f0 := hb9.cell 0
  have f1 := hb9.cell 1
  have y0 := hb9.frozen 0
  have y1 := hb9.frozen 1
  simp only [List.getElem?_toArray, List.getElem?_cons_zero, List.getElem?_cons_succ] at e0 e1 f0 f1
  clear ho9 hd9 hb9
  by_cases hE0 : EE = 0
  · subst hE0
    have HBf := Lib.hid (box_two HB9.out (.string VV) (.slice A6 LL.length c6))
    have HQ : Hid (QQ (.returned (.tuple #[.agg #[.string VV, .slice A6 LL.length c6], iv 0])) ((w9.setCell ⟨kr, 0, none⟩ (.string VV)).setCell ⟨kr, 1, none⟩ (.slice A6 LL.length c6))) := Lib.hid (by
      have ho := ((Only.refl (Just kr) w9).setCell (p := ⟨kr, 0, none⟩) (.inl rfl) (.string VV)).setCell (p := ⟨kr, 1, none⟩) (.inl rfl) (.slice A6 LL.length c6)
      refine HRcG.out _ _ (HS9.out.only ho (fun i hi hf ad n c e he => ?_)) rfl (HON9.out.then ho (fun k hk => .inr (by rw [HRr.out, show k = kr from hk]; exact Nat.le_refl _)))
      have hk : i = kr := hf
      have := HKr.out ad n c e
      omega)
    go_wp2
    refine bodyPost_ret (v := .tuple #[.agg #[.string VV, .slice A6 LL.length c6], iv 0]) (results_cm rfl _ _ kr _ _ _ rfl HBf.out rfl) rfl ?_
    exact HQ.out
  · have HBf := Lib.hid (box_two HB9.out (.string ⟨#[]⟩) (.slice none 0 0))
    have HQ := Lib.hid (HRcE.out _ HBf.out hE0 (HON9.out.then (((Only.refl (Just kr) w9).setCell (p := ⟨kr, 0, none⟩) (.inl rfl) (.string ⟨#[]⟩)).setCell (p := ⟨kr, 1, none⟩) (.inl rfl) (.slice none 0 0)) (fun k hk => .inr (by rw [HRr.out, show k = kr from hk]; exact Nat.le_refl _))))
    go_wp2
    refine bodyPost_ret (v := .tuple #[.agg #[.string ⟨#[]⟩, .slice none 0 0], iv EE]) (results_cm rfl _ _ kr _ _ _ rfl HBf.out rfl) rfl ?_
    exact HQ.out
end Go.Proofs.YtphpciglpnbblaaDoor
