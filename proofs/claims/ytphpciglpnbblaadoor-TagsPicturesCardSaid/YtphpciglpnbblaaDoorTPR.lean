/-
  Pictures: ReadPicture.
-/
import Derived.Test.YtphpciglpnbblaaDoorTPB
import Derived.Test.YtphpciglpnbblaaDoorTH
namespace Go.Proofs.YtphpciglpnbblaaDoor
open Go.RowKit Go.Shelf

theorem word_any {w : World} {b : Nat} {rest : List Nat} {sh off : Bool} (h : Rd w b rest sh off) :
    Calls Tryd.prog 39 #[.pointer (some ⟨b, 0, none⟩)] w fun e w' => NmR w b 4 vl rest sh off e w' := by
  have HD := Lib.hid (number_any (m := 4) h (by decide))
  rw [show ((4 : Nat) : Int) = 4 from rfl] at HD
  unfold NmR at *
  generalize vl (tkB 4 rest) = n at *
  generalize tkR 4 rest = r2 at *
  generalize (sh || decide (rest.length < 4)) = s2 at *
  clear h
  go_enter Tryd.func39, Tryd.ntmps39
  go_wp2_with fail
  refine (HD.out).mono ?_
  rintro e w1 ⟨rfl, hr, ho⟩
  go_wp2
  go_ret
  exact ⟨rfl, hr, ho⟩
theorem reads_word : Reads 39 vl := ⟨enters_of Tryd.func39 (by kernel_rfl) rfl, fun _ _ _ _ _ h => word_any h, fun l hl h => Nat.lt_of_lt_of_le (vl_lt l h) (by rw [show (4294967296 : Nat) = 2 ^ 32 by decide]; exact Nat.pow_le_pow_right (by decide) (by omega))⟩
def q1 (bs : List Nat) : List Nat := tkR 4 bs
def q2 (bs : List Nat) : List Nat := txR vl (q1 bs)
def q3 (bs : List Nat) : List Nat := txR vl (q2 bs)
def q4 (bs : List Nat) : List Nat := tkR 4 (q3 bs)
def q5 (bs : List Nat) : List Nat := tkR 4 (q4 bs)
def q6 (bs : List Nat) : List Nat := tkR 4 (q5 bs)
def q7 (bs : List Nat) : List Nat := tkR 4 (q6 bs)
def q8 (bs : List Nat) : List Nat := txR vl (q7 bs)
/-- did bytes run out, so far? -/
def z1 (bs : List Nat) : Bool := decide (bs.length < 4)
def z2 (bs : List Nat) : Bool := z1 bs || txS vl (q1 bs)
def z3 (bs : List Nat) : Bool := z2 bs || txS vl (q2 bs)
def z4 (bs : List Nat) : Bool := z3 bs || decide ((q3 bs).length < 4)
def z5 (bs : List Nat) : Bool := z4 bs || decide ((q4 bs).length < 4)
def z6 (bs : List Nat) : Bool := z5 bs || decide ((q5 bs).length < 4)
def z7 (bs : List Nat) : Bool := z6 bs || decide ((q6 bs).length < 4)
def z8 (bs : List Nat) : Bool := z7 bs || txS vl (q7 bs)
/-- the picture that is read, and its data -/
def rpP (bs : List Nat) : Pc := ⟨(vl (tkB 4 bs) : Nat), strN (txB vl (q1 bs)), strN (txB vl (q2 bs)), (vl (tkB 4 (q3 bs)) : Nat), (vl (tkB 4 (q4 bs)) : Nat), (vl (tkB 4 (q5 bs)) : Nat), (vl (tkB 4 (q6 bs)) : Nat)⟩
def rpD (bs : List Nat) : List Nat := txB vl (q7 bs)
def rpE (bs : List Nat) : Int := if z8 bs = true then 11 else if 0 < (q8 bs).length then 12 else pcE (rpP bs)
theorem tkB_le2 (m : Nat) (rest : List Nat) : (tkB m rest).length + (tkR m rest).length ≤ rest.length := by
  rw [tkB_len, tkR_len]
  split <;> omega
theorem txB_le2 (num : List Nat → Nat) (rest : List Nat) : (txB num rest).length + (txR num rest).length ≤ rest.length := by
  have h1 := tkB_le2 4 rest
  have h2 := tkB_le2 (num (tkB 4 rest)) (tkR 4 rest)
  unfold txB txR
  omega
theorem rp_sz (bs : List Nat) : (rpP bs).m.size ≤ bs.length ∧ (rpP bs).t.size ≤ bs.length ∧ (rpD bs).length ≤ bs.length := by
  have h1 := tkB_le2 4 bs
  have h2 := txB_le2 vl (q1 bs)
  have h3 := txB_le2 vl (q2 bs)
  have h4 := tkB_le2 4 (q3 bs)
  have h5 := tkB_le2 4 (q4 bs)
  have h6 := tkB_le2 4 (q5 bs)
  have h7 := tkB_le2 4 (q6 bs)
  have h8 := txB_le2 vl (q7 bs)
  have e1 : (strN (txB vl (q1 bs))).size = (txB vl (q1 bs)).length := strN_size _
  have e2 : (strN (txB vl (q2 bs))).size = (txB vl (q2 bs)).length := strN_size _
  unfold rpP rpD
  dsimp only
  rw [e1, e2]
  change _ + (q1 bs).length ≤ _ at h1
  change _ + (q2 bs).length ≤ _ at h2
  change _ + (q3 bs).length ≤ _ at h3
  change _ + (q4 bs).length ≤ _ at h4
  change _ + (q5 bs).length ≤ _ at h5
  change _ + (q6 bs).length ≤ _ at h6
  change _ + (q7 bs).length ≤ _ at h7
  omega
def pz : Pc := ⟨0, ⟨#[]⟩, ⟨#[]⟩, 0, 0, 0, 0⟩
/-- what ReadPicture answers -/
def RpR (w : World) (bs : List Nat) (e : Ending) (w' : World) : Prop :=
  (∃ d, e = .returned (.tuple #[pcV (if rpE bs = 0 then rpP bs else pz) d, iv (rpE bs)]) ∧ CSrc w' d (if rpE bs = 0 then rpD bs else [])) ∧ Only Nix w w'
abbrev zV : Array Value := #[iv 0, .string ⟨#[]⟩, .string ⟨#[]⟩, iv 0, iv 0, iv 0, iv 0, .slice none 0 0]
set_option maxRecDepth 100000 in
set_option maxHeartbeats 16000000 in
theorem readP_any {w : World} {x : Value} {bs : List Nat} (hs : CSrc w x bs) (hN : bs.length ≤ 20000) (hT : Tabs w) :
    Calls Tryd.prog 16 #[x] w fun e w' => RpR w bs e w' := by
  obtain ⟨A, c, rfl, hcap⟩ := hs.form
  have hsm := hs.src.small
  have HT := Lib.hid hT
  obtain ⟨W1, hW1⟩ : ∃ W1, w.alloc (.cells zV 40) = W1 := ⟨_, rfl⟩
  have b1 := Box.new w 40 zV
  have o1 := (Only.refl Nix w).alloc (.cells zV 40)
  rw [hW1] at b1 o1
  obtain ⟨W2, hW2⟩ : ∃ W2, W1.alloc (.cells #[.slice A bs.length c, .bool false, .bool false] 62) = W2 := ⟨_, rfl⟩
  have r2 := Box.new W1 62 #[.slice A bs.length c, .bool false, .bool false]
  have b2 := b1.alloc (.cells #[.slice A bs.length c, .bool false, .bool false] 62)
  have o2 := (Only.refl Nix W1).alloc (.cells #[.slice A bs.length c, .bool false, .bool false] 62)
  rw [hW2] at r2 b2 o2
  have HR2 : Rd W2 W1.heap.size bs false false := ⟨⟨_, r2, (hs.nix o1).nix o2, fun h0 ad n c' e => by
    injection e with e _ _
    subst e
    obtain ⟨ad', e, hx⟩ := (hs.nix o1).src.at_ (k := 0) h0
    injection e with e
    subst e
    have := World.block_lt_of_cell? W1 _ hx
    rwa [add_block] at this⟩⟩
  obtain ⟨W3, hW3⟩ : ∃ W3, W2.alloc (.cells zV 40) = W3 := ⟨_, rfl⟩
  have d3 := Box.new W2 40 zV
  have b3 := b2.alloc (.cells zV 40)
  have o3 := (Only.refl Nix W2).alloc (.cells zV 40)
  rw [hW3] at d3 b3 o3
  have HR3 := HR2.nix o3
  have hlt1 : w.heap.size < W1.heap.size := b1.lt
  have hlt2 : W1.heap.size < W2.heap.size := r2.lt
  have HO3 : Hid (Only Nix w W3) := Lib.hid (o1.trans (o2.trans o3))
  obtain ⟨kb, hkb⟩ : ∃ kb, W1.heap.size = kb := ⟨_, rfl⟩
  obtain ⟨kc, hkc⟩ : ∃ kc, W2.heap.size = kc := ⟨_, rfl⟩
  obtain ⟨kr, hkr⟩ : ∃ kr, w.heap.size = kr := ⟨_, rfl⟩
  rw [hkb] at HR3 hlt1 hlt2
  rw [hkc] at d3 hlt2
  rw [hkr] at b3 hlt1
  have HRr := Lib.hid hkr
  have HZ := Lib.hid (rp_sz bs)
  have HN := Lib.hid hN
  have HRcE : Hid (∀ w', rpE bs ≠ 0 → Only Nix w w' → RpR w bs (.returned (.tuple #[pcV pz (.slice none 0 0), iv (rpE bs)])) w') := Lib.hid (fun w' he ho => ⟨⟨.slice none 0 0, by rw [if_neg he], by rw [if_neg he]; exact CSrc.nil _⟩, ho⟩)
  have HRcG : Hid (∀ w' v, CSrc w' v (rpD bs) → rpE bs = 0 → Only Nix w w' → RpR w bs (.returned (.tuple #[pcV (rpP bs) v, iv 0])) w') := Lib.hid (fun w' v hv he ho => ⟨⟨v, by rw [he, if_pos rfl], by rw [if_pos he]; exact hv⟩, ho⟩)
  have HE : Hid (rpE bs = if (if z8 bs = true then (11 : Int) else if false = true ∨ 0 < (q8 bs).length then 12 else 0) = 0 then pcE (rpP bs) else (if z8 bs = true then (11 : Int) else if false = true ∨ 0 < (q8 bs).length then 12 else 0)) := Lib.hid (by
    unfold rpE
    by_cases h : z8 bs = true
    · simp [h]
    · by_cases h2 : 0 < (q8 bs).length
      · simp [h, h2]
      · simp [h, h2])
  have HP : Hid (rpP bs = ⟨(vl (tkB 4 bs) : Nat), strN (txB vl (q1 bs)), strN (txB vl (q2 bs)), (vl (tkB 4 (q3 bs)) : Nat), (vl (tkB 4 (q4 bs)) : Nat), (vl (tkB 4 (q5 bs)) : Nat), (vl (tkB 4 (q6 bs)) : Nat)⟩) := Lib.hid rfl
  have HB0 := Lib.hid b3
  have HD0 := Lib.hid d3
  have HRd0 : Hid (Rd W3 kb bs false false) := Lib.hid HR3
  have F1 : Hid (∀ u, Rd u kb bs false false → Calls Tryd.prog 39 #[.pointer (some ⟨kb, 0, none⟩)] u fun e w' => e = .returned (iv (vl (tkB 4 bs) : Nat)) ∧ Rd w' kb (q1 bs) (z1 bs) false ∧ Only (Just kb) u w') := Lib.hid (fun u hu => (word_any hu).mono (fun e w' h => by unfold NmR at h; rw [Bool.false_or] at h; exact h))
  have F2 : Hid (∀ u, Rd u kb (q1 bs) (z1 bs) false → Calls Tryd.prog 29 #[.pointer (some ⟨kb, 0, none⟩), mv 39 kb] u fun e w' => e = .returned (.string (strN (txB vl (q1 bs)))) ∧ Rd w' kb (q2 bs) (z2 bs) false ∧ Only (Just kb) u w') := Lib.hid (fun u hu => text_any reads_word hu)
  have F3 : Hid (∀ u, Rd u kb (q2 bs) (z2 bs) false → Calls Tryd.prog 29 #[.pointer (some ⟨kb, 0, none⟩), mv 39 kb] u fun e w' => e = .returned (.string (strN (txB vl (q2 bs)))) ∧ Rd w' kb (q3 bs) (z3 bs) false ∧ Only (Just kb) u w') := Lib.hid (fun u hu => text_any reads_word hu)
  have F4 : Hid (∀ u, Rd u kb (q3 bs) (z3 bs) false → Calls Tryd.prog 39 #[.pointer (some ⟨kb, 0, none⟩)] u fun e w' => e = .returned (iv (vl (tkB 4 (q3 bs)) : Nat)) ∧ Rd w' kb (q4 bs) (z4 bs) false ∧ Only (Just kb) u w') := Lib.hid (fun u hu => word_any hu)
  have F5 : Hid (∀ u, Rd u kb (q4 bs) (z4 bs) false → Calls Tryd.prog 39 #[.pointer (some ⟨kb, 0, none⟩)] u fun e w' => e = .returned (iv (vl (tkB 4 (q4 bs)) : Nat)) ∧ Rd w' kb (q5 bs) (z5 bs) false ∧ Only (Just kb) u w') := Lib.hid (fun u hu => word_any hu)
  have F6 : Hid (∀ u, Rd u kb (q5 bs) (z5 bs) false → Calls Tryd.prog 39 #[.pointer (some ⟨kb, 0, none⟩)] u fun e w' => e = .returned (iv (vl (tkB 4 (q5 bs)) : Nat)) ∧ Rd w' kb (q6 bs) (z6 bs) false ∧ Only (Just kb) u w') := Lib.hid (fun u hu => word_any hu)
  have F7 : Hid (∀ u, Rd u kb (q6 bs) (z6 bs) false → Calls Tryd.prog 39 #[.pointer (some ⟨kb, 0, none⟩)] u fun e w' => e = .returned (iv (vl (tkB 4 (q6 bs)) : Nat)) ∧ Rd w' kb (q7 bs) (z7 bs) false ∧ Only (Just kb) u w') := Lib.hid (fun u hu => word_any hu)
  have F8 : Hid (∀ u, Rd u kb (q7 bs) (z7 bs) false → Calls Tryd.prog 40 #[.pointer (some ⟨kb, 0, none⟩), mv 39 kb] u fun e w' => (∃ v, e = .returned v ∧ CSrc w' v (rpD bs) ∧ (0 < (rpD bs).length → ∀ ad n c, v = .slice (some ad) n c → ad.block < kb)) ∧ Rd w' kb (q8 bs) (z8 bs) false ∧ Only (Just kb) u w') := Lib.hid (fun u hu => sized_any reads_word hu)
  clear b1 o1 r2 b2 o2 HR2 d3 b3 o3 HR3 hs hT hcap hN
  generalize rpD bs = DD at *
  generalize rpE bs = EE at *
  generalize RpR w bs = QQ at *
  generalize hPP : rpP bs = PP at *
  have HPP := Lib.hid HP.out
  clear HP hPP
  generalize vl (tkB 4 bs) = n0 at *
  generalize strN (txB vl (q1 bs)) = t1 at *
  generalize strN (txB vl (q2 bs)) = t2 at *
  generalize vl (tkB 4 (q3 bs)) = n3 at *
  generalize vl (tkB 4 (q4 bs)) = n4 at *
  generalize vl (tkB 4 (q5 bs)) = n5 at *
  generalize vl (tkB 4 (q6 bs)) = n6 at *
  generalize q1 bs = r1 at *
  generalize z1 bs = s1 at *
  generalize q2 bs = r2 at *
  generalize z2 bs = s2 at *
  generalize q3 bs = r3 at *
  generalize z3 bs = s3 at *
  generalize q4 bs = r4 at *
  generalize z4 bs = s4 at *
  generalize q5 bs = r5 at *
  generalize z5 bs = s5 at *
  generalize q6 bs = r6 at *
  generalize z6 bs = s6 at *
  generalize q7 bs = r7 at *
  generalize z7 bs = s7 at *
  generalize q8 bs = r8 at *
  generalize z8 bs = s8 at *
  generalize hE1 : (if s8 = true then (11 : Int) else if false = true ∨ 0 < r8.length then 12 else 0) = E1 at HE
  have HE1 := Lib.hid hE1
  obtain ⟨CK, hCK⟩ : ∃ CK, pcE PP = CK := ⟨_, rfl⟩
  rw [hCK] at HE
  have HCK := Lib.hid hCK
  have hE1b := Lib.hid hE1
  clear hE1 hCK
  have Hen1 : Hid (∀ args w, (callFunc 34 args).run Tryd.prog w = .ok (.enter 34 args) w) := Lib.hid (enters_of Tryd.func34 (by kernel_rfl) rfl)
  have Hen2 : Hid (∀ args w, (callFunc 36 args).run Tryd.prog w = .ok (.enter 36 args) w) := Lib.hid (enters_of Tryd.func36 (by kernel_rfl) rfl)
  have HON0 := Lib.hid HO3.out
  go_enter Tryd.func16, Tryd.ntmps16
  have G1 := Lib.hid (F1.out W3 HRd0.out)
  go_wp2_with fail
  refine (G1.out).mono ?_
  rintro e a1 ⟨rfl, hr, ho⟩
  have hd1 := HD0.out.only ho (fun e => by have : kc = kb := e; omega)
  have hb1 := HB0.out.only ho (fun e => by have : kr = kb := e; omega)
  have z0 := hd1.frozen 0
  have c0 : a1.cell? ⟨kc, 0, none⟩ = some (iv 0) := hd1.cell 0
  obtain ⟨U1, hU1⟩ : ∃ U, a1.setCell ⟨kc, 0, none⟩ (iv ((n0 : Nat) : Int)) = U := ⟨_, rfl⟩
  have os : Only (Just kc) a1 U1 := hU1 ▸ (Only.refl (Just kc) a1).setCell (p := ⟨kc, 0, none⟩) (.inl rfl) (iv ((n0 : Nat) : Int))
  have HD1 : Hid (Box U1 kc 40 #[iv ((n0 : Nat) : Int), .string ⟨#[]⟩, .string ⟨#[]⟩, iv 0, iv 0, iv 0, iv 0, .slice none 0 0]) := Lib.hid (hU1 ▸ hd1.put 0 (iv ((n0 : Nat) : Int)))
  have HB1 := Lib.hid (hb1.only os (fun e => by have : kr = kc := e; omega))
  have HRd1 := Lib.hid (hr.up os (fun k hk => by rw [show k = kc from hk]; exact hlt2))
  have HON1 : Hid (Only Nix w U1) := Lib.hid (HON0.out.then ((ho.mono (fun k hk => .inl hk) : Only (fun k => k = kb ∨ k = kc) W3 a1).trans (os.mono (fun k hk => .inr hk))) (fun k hk => .inr (by rw [HRr.out]; rcases hk with e | e <;> omega)))
  clear hr ho hd1 hb1 os
  have G2 := Lib.hid (F2.out U1 HRd1.out)
  go_wp2_with fail
  refine (G2.out).mono ?_
  rintro e a2 ⟨rfl, hr, ho⟩
  have hd2 := HD1.out.only ho (fun e => by have : kc = kb := e; omega)
  have hb2 := HB1.out.only ho (fun e => by have : kr = kb := e; omega)
  have z0 := hd2.frozen 1
  have c0 : a2.cell? ⟨kc, 1, none⟩ = some (.string ⟨#[]⟩) := hd2.cell 1
  obtain ⟨U2, hU2⟩ : ∃ U, a2.setCell ⟨kc, 1, none⟩ (.string t1) = U := ⟨_, rfl⟩
  have os : Only (Just kc) a2 U2 := hU2 ▸ (Only.refl (Just kc) a2).setCell (p := ⟨kc, 1, none⟩) (.inl rfl) (.string t1)
  have HD2 : Hid (Box U2 kc 40 #[iv ((n0 : Nat) : Int), .string t1, .string ⟨#[]⟩, iv 0, iv 0, iv 0, iv 0, .slice none 0 0]) := Lib.hid (hU2 ▸ hd2.put 1 (.string t1))
  have HB2 := Lib.hid (hb2.only os (fun e => by have : kr = kc := e; omega))
  have HRd2 := Lib.hid (hr.up os (fun k hk => by rw [show k = kc from hk]; exact hlt2))
  have HON2 : Hid (Only Nix w U2) := Lib.hid (HON1.out.then ((ho.mono (fun k hk => .inl hk) : Only (fun k => k = kb ∨ k = kc) U1 a2).trans (os.mono (fun k hk => .inr hk))) (fun k hk => .inr (by rw [HRr.out]; rcases hk with e | e <;> omega)))
  clear hr ho hd2 hb2 os
  have G3 := Lib.hid (F3.out U2 HRd2.out)
  go_wp2_with fail
  refine (G3.out).mono ?_
  rintro e a3 ⟨rfl, hr, ho⟩
  have hd3 := HD2.out.only ho (fun e => by have : kc = kb := e; omega)
  have hb3 := HB2.out.only ho (fun e => by have : kr = kb := e; omega)
  have z0 := hd3.frozen 2
  have c0 : a3.cell? ⟨kc, 2, none⟩ = some (.string ⟨#[]⟩) := hd3.cell 2
  obtain ⟨U3, hU3⟩ : ∃ U, a3.setCell ⟨kc, 2, none⟩ (.string t2) = U := ⟨_, rfl⟩
  have os : Only (Just kc) a3 U3 := hU3 ▸ (Only.refl (Just kc) a3).setCell (p := ⟨kc, 2, none⟩) (.inl rfl) (.string t2)
  have HD3 : Hid (Box U3 kc 40 #[iv ((n0 : Nat) : Int), .string t1, .string t2, iv 0, iv 0, iv 0, iv 0, .slice none 0 0]) := Lib.hid (hU3 ▸ hd3.put 2 (.string t2))
  have HB3 := Lib.hid (hb3.only os (fun e => by have : kr = kc := e; omega))
  have HRd3 := Lib.hid (hr.up os (fun k hk => by rw [show k = kc from hk]; exact hlt2))
  have HON3 : Hid (Only Nix w U3) := Lib.hid (HON2.out.then ((ho.mono (fun k hk => .inl hk) : Only (fun k => k = kb ∨ k = kc) U2 a3).trans (os.mono (fun k hk => .inr hk))) (fun k hk => .inr (by rw [HRr.out]; rcases hk with e | e <;> omega)))
  clear hr ho hd3 hb3 os
  have G4 := Lib.hid (F4.out U3 HRd3.out)
  go_wp2_with fail
  refine (G4.out).mono ?_
  rintro e a4 ⟨rfl, hr, ho⟩
  have hd4 := HD3.out.only ho (fun e => by have : kc = kb := e; omega)
  have hb4 := HB3.out.only ho (fun e => by have : kr = kb := e; omega)
  have z0 := hd4.frozen 3
  have c0 : a4.cell? ⟨kc, 3, none⟩ = some (iv 0) := hd4.cell 3
  obtain ⟨U4, hU4⟩ : ∃ U, a4.setCell ⟨kc, 3, none⟩ (iv ((n3 : Nat) : Int)) = U := ⟨_, rfl⟩
  have os : Only (Just kc) a4 U4 := hU4 ▸ (Only.refl (Just kc) a4).setCell (p := ⟨kc, 3, none⟩) (.inl rfl) (iv ((n3 : Nat) : Int))
  have HD4 : Hid (Box U4 kc 40 #[iv ((n0 : Nat) : Int), .string t1, .string t2, iv ((n3 : Nat) : Int), iv 0, iv 0, iv 0, .slice none 0 0]) := Lib.hid (hU4 ▸ hd4.put 3 (iv ((n3 : Nat) : Int)))
  have HB4 := Lib.hid (hb4.only os (fun e => by have : kr = kc := e; omega))
  have HRd4 := Lib.hid (hr.up os (fun k hk => by rw [show k = kc from hk]; exact hlt2))
  have HON4 : Hid (Only Nix w U4) := Lib.hid (HON3.out.then ((ho.mono (fun k hk => .inl hk) : Only (fun k => k = kb ∨ k = kc) U3 a4).trans (os.mono (fun k hk => .inr hk))) (fun k hk => .inr (by rw [HRr.out]; rcases hk with e | e <;> omega)))
  clear hr ho hd4 hb4 os
  have G5 := Lib.hid (F5.out U4 HRd4.out)
  go_wp2_with fail
  refine (G5.out).mono ?_
  rintro e a5 ⟨rfl, hr, ho⟩
  have hd5 := HD4.out.only ho (fun e => by have : kc = kb := e; omega)
  have hb5 := HB4.out.only ho (fun e => by have : kr = kb := e; omega)
  have z0 := hd5.frozen 4
  have c0 : a5.cell? ⟨kc, 4, none⟩ = some (iv 0) := hd5.cell 4
  obtain ⟨U5, hU5⟩ : ∃ U, a5.setCell ⟨kc, 4, none⟩ (iv ((n4 : Nat) : Int)) = U := ⟨_, rfl⟩
  have os : Only (Just kc) a5 U5 := hU5 ▸ (Only.refl (Just kc) a5).setCell (p := ⟨kc, 4, none⟩) (.inl rfl) (iv ((n4 : Nat) : Int))
  have HD5 : Hid (Box U5 kc 40 #[iv ((n0 : Nat) : Int), .string t1, .string t2, iv ((n3 : Nat) : Int), iv ((n4 : Nat) : Int), iv 0, iv 0, .slice none 0 0]) := Lib.hid (hU5 ▸ hd5.put 4 (iv ((n4 : Nat) : Int)))
  have HB5 := Lib.hid (hb5.only os (fun e => by have : kr = kc := e; omega))
  have HRd5 := Lib.hid (hr.up os (fun k hk => by rw [show k = kc from hk]; exact hlt2))
  have HON5 : Hid (Only Nix w U5) := Lib.hid (HON4.out.then ((ho.mono (fun k hk => .inl hk) : Only (fun k => k = kb ∨ k = kc) U4 a5).trans (os.mono (fun k hk => .inr hk))) (fun k hk => .inr (by rw [HRr.out]; rcases hk with e | e <;> omega)))
  clear hr ho hd5 hb5 os
  have G6 := Lib.hid (F6.out U5 HRd5.out)
  go_wp2_with fail
  refine (G6.out).mono ?_
  rintro e a6 ⟨rfl, hr, ho⟩
  have hd6 := HD5.out.only ho (fun e => by have : kc = kb := e; omega)
  have hb6 := HB5.out.only ho (fun e => by have : kr = kb := e; omega)
  have z0 := hd6.frozen 5
  have c0 : a6.cell? ⟨kc, 5, none⟩ = some (iv 0) := hd6.cell 5
  obtain ⟨U6, hU6⟩ : ∃ U, a6.setCell ⟨kc, 5, none⟩ (iv ((n5 : Nat) : Int)) = U := ⟨_, rfl⟩
  have os : Only (Just kc) a6 U6 := hU6 ▸ (Only.refl (Just kc) a6).setCell (p := ⟨kc, 5, none⟩) (.inl rfl) (iv ((n5 : Nat) : Int))
  have HD6 : Hid (Box U6 kc 40 #[iv ((n0 : Nat) : Int), .string t1, .string t2, iv ((n3 : Nat) : Int), iv ((n4 : Nat) : Int), iv ((n5 : Nat) : Int), iv 0, .slice none 0 0]) := Lib.hid (hU6 ▸ hd6.put 5 (iv ((n5 : Nat) : Int)))
  have HB6 := Lib.hid (hb6.only os (fun e => by have : kr = kc := e; omega))
  have HRd6 := Lib.hid (hr.up os (fun k hk => by rw [show k = kc from hk]; exact hlt2))
  have HON6 : Hid (Only Nix w U6) := Lib.hid (HON5.out.then ((ho.mono (fun k hk => .inl hk) : Only (fun k => k = kb ∨ k = kc) U5 a6).trans (os.mono (fun k hk => .inr hk))) (fun k hk => .inr (by rw [HRr.out]; rcases hk with e | e <;> omega)))
  clear hr ho hd6 hb6 os
  have G7 := Lib.hid (F7.out U6 HRd6.out)
  go_wp2_with fail
  refine (G7.out).mono ?_
  rintro e a7 ⟨rfl, hr, ho⟩
  have hd7 := HD6.out.only ho (fun e => by have : kc = kb := e; omega)
  have hb7 := HB6.out.only ho (fun e => by have : kr = kb := e; omega)
  have z0 := hd7.frozen 6
  have c0 : a7.cell? ⟨kc, 6, none⟩ = some (iv 0) := hd7.cell 6
  obtain ⟨U7, hU7⟩ : ∃ U, a7.setCell ⟨kc, 6, none⟩ (iv ((n6 : Nat) : Int)) = U := ⟨_, rfl⟩
  have os : Only (Just kc) a7 U7 := hU7 ▸ (Only.refl (Just kc) a7).setCell (p := ⟨kc, 6, none⟩) (.inl rfl) (iv ((n6 : Nat) : Int))
  have HD7 : Hid (Box U7 kc 40 #[iv ((n0 : Nat) : Int), .string t1, .string t2, iv ((n3 : Nat) : Int), iv ((n4 : Nat) : Int), iv ((n5 : Nat) : Int), iv ((n6 : Nat) : Int), .slice none 0 0]) := Lib.hid (hU7 ▸ hd7.put 6 (iv ((n6 : Nat) : Int)))
  have HB7 := Lib.hid (hb7.only os (fun e => by have : kr = kc := e; omega))
  have HRd7 := Lib.hid (hr.up os (fun k hk => by rw [show k = kc from hk]; exact hlt2))
  have HON7 : Hid (Only Nix w U7) := Lib.hid (HON6.out.then ((ho.mono (fun k hk => .inl hk) : Only (fun k => k = kb ∨ k = kc) U6 a7).trans (os.mono (fun k hk => .inr hk))) (fun k hk => .inr (by rw [HRr.out]; rcases hk with e | e <;> omega)))
  clear hr ho hd7 hb7 os
  have G8 := Lib.hid (F8.out U7 HRd7.out)
  go_wp2_with fail
  refine (G8.out).mono ?_
  rintro e a8 ⟨⟨v, rfl, hv, hvl⟩, hr, ho⟩
  obtain ⟨Ad, cd, rfl, _⟩ := hv.form
  have hd8 := HD7.out.only ho (fun e => by have : kc = kb := e; omega)
  have hb8 := HB7.out.only ho (fun e => by have : kr = kb := e; omega)
  have z0 := hd8.frozen 7
  have c0 : a8.cell? ⟨kc, 7, none⟩ = some (.slice none 0 0) := hd8.cell 7
  obtain ⟨U8, hU8⟩ : ∃ U, a8.setCell ⟨kc, 7, none⟩ (.slice Ad DD.length cd) = U := ⟨_, rfl⟩
  have os : Only (Just kc) a8 U8 := hU8 ▸ (Only.refl (Just kc) a8).setCell (p := ⟨kc, 7, none⟩) (.inl rfl) (.slice Ad DD.length cd)
  have HD8 : Hid (Box U8 kc 40 #[iv ((n0 : Nat) : Int), .string t1, .string t2, iv ((n3 : Nat) : Int), iv ((n4 : Nat) : Int), iv ((n5 : Nat) : Int), iv ((n6 : Nat) : Int), .slice Ad DD.length cd]) := Lib.hid (hU8 ▸ hd8.put 7 (.slice Ad DD.length cd))
  have HB8 := Lib.hid (hb8.only os (fun e => by have : kr = kc := e; omega))
  have HRd8 := Lib.hid (hr.up os (fun k hk => by rw [show k = kc from hk]; exact hlt2))
  have HON8 : Hid (Only Nix w U8) := Lib.hid (HON7.out.then ((ho.mono (fun k hk => .inl hk) : Only (fun k => k = kb ∨ k = kc) U7 a8).trans (os.mono (fun k hk => .inr hk))) (fun k hk => .inr (by rw [HRr.out]; rcases hk with e | e <;> omega)))
  have HV8 : Hid (CSrc U8 (.slice Ad DD.length cd) DD) := Lib.hid (csrc_off hv os (fun h0 ad n c e hf => by have := hvl h0 ad n c e; have : ad.block = kc := hf; omega))
  clear hv hvl
  clear hr ho hd8 hb8 os
  have hPc : #[iv ((n0 : Nat) : Int), .string t1, .string t2, iv ((n3 : Nat) : Int), iv ((n4 : Nat) : Int), iv ((n5 : Nat) : Int), iv ((n6 : Nat) : Int), .slice Ad DD.length cd] = pcc PP (.slice Ad DD.length cd) := by rw [HPP.out]; rfl
  have HD9 : Hid (Box U8 kc 40 (pcc PP (.slice Ad DD.length cd))) := Lib.hid (by rw [← hPc]; exact HD8.out)
  clear hPc
  obtain ⟨W8, hW8⟩ : ∃ W8, U8.alloc (.cells #[fv 34 (.pointer (some ⟨kb, 0, none⟩)), fv 36 (pcV PP (.slice Ad DD.length cd))] 55) = W8 := ⟨_, rfl⟩
  have l8 := Box.new U8 55 #[fv 34 (.pointer (some ⟨kb, 0, none⟩)), fv 36 (pcV PP (.slice Ad DD.length cd))]
  have o8 := (Only.refl Nix U8).alloc (.cells #[fv 34 (.pointer (some ⟨kb, 0, none⟩)), fv 36 (pcV PP (.slice Ad DD.length cd))] 55)
  rw [hW8] at l8 o8
  have HF8 := Lib.hid (first_any (E1 := E1) (E2 := CK) (l8.cell 0) (l8.cell 1) Hen1.out Hen2.out (fun u hu => by
    rw [← HE1.out]
    exact end_any ((HRd8.out.nix o8).nix hu)) (fun u hu => by
    rw [← HCK.out]
    have hz := HZ.out
    have hn := HN.out
    exact pcheck_any ((HV8.out.nix o8).nix hu) (by omega) (by omega) (by omega) (HT.out.nix (HON8.out.trans (o8.trans hu)))))
  rw [← HE.out] at HF8
  have HV9 := Lib.hid (HV8.out.nix o8)
  have HB9 := Lib.hid (HB8.out.only o8 (fun e => e))
  have HD10 := Lib.hid (HD9.out.only o8 (fun e => e))
  have HON9 := Lib.hid (HON8.out.trans o8)
  clear l8 o8
  go_wp2_with (first
    | (refine load_pic rfl (.tmp 5) rfl kc PP (.slice Ad DD.length cd) rfl HD9.out ?_)
    | fail)
  refine (HF8.out).mono ?_
  rintro e w9 ⟨rfl, ho⟩
  have HV10 := Lib.hid (HV9.out.nix ho)
  have HB10 := Lib.hid (HB9.out.only ho (fun e => e))
  have hd11 := HD10.out.only ho (fun e => e)
  have HD11 := Lib.hid hd11
  have HON10 := Lib.hid (HON9.out.trans ho)
  have k7 := pc7 hd11
  clear ho hd11
  by_cases hE0 : EE = 0
  · subst hE0
    have HCl := Lib.hid (clone_any HV10.out (by have := HZ.out; have := HN.out; omega))
    go_wp2_with fail
    refine (HCl.out).mono ?_
    rintro e wA ⟨v2, rfl, hv2, hown2, ho⟩
    obtain ⟨A2, c2, rfl, _⟩ := hv2.form
    have hdA := HD11.out.only ho (fun e => e)
    have HBA := Lib.hid (HB10.out.only ho (fun e => e))
    have HONA := Lib.hid (HON10.out.trans ho)
    have zA := hdA.frozen 7
    have cA := pc7 hdA
    obtain ⟨WB, hWB⟩ : ∃ U, wA.setCell ⟨kc, 7, none⟩ (.slice A2 DD.length c2) = U := ⟨_, rfl⟩
    have os : Only (Just kc) wA WB := hWB ▸ (Only.refl (Just kc) wA).setCell (p := ⟨kc, 7, none⟩) (.inl rfl) (.slice A2 DD.length c2)
    have HDB : Hid (Box WB kc 40 (pcc PP (.slice A2 DD.length c2))) := Lib.hid (hWB ▸ hdA.put 7 (.slice A2 DD.length c2))
    have hltc : kc < w9.heap.size := HD11.out.lt
    have hltr : kr < w9.heap.size := HB10.out.lt
    have hblk : ∀ ad n c, Value.slice A2 DD.length c2 = .slice (some ad) n c → w9.heap.size ≤ ad.block := fun ad n c e => by
      rcases hown2.2 with ⟨e1, _⟩ | ⟨g, cap, cur, e1, hb, _⟩
      · rw [e1] at e; cases e
      · rw [e1] at e
        injection e with e _ _
        injection e with e
        rw [← e]
        exact hb
    have HVB : Hid (CSrc WB (.slice A2 DD.length c2) DD) := Lib.hid (csrc_off hv2 os (fun h0 ad n c e hf => by have := hblk ad n c e; have : ad.block = kc := hf; omega))
    have HBB := Lib.hid (HBA.out.only os (fun e => by have : kr = kc := e; omega))
    have HONB : Hid (Only Nix w WB) := Lib.hid (HONA.out.then os (fun k hk => .inr (by rw [HRr.out, show k = kc from hk]; omega)))
    have Hblk := Lib.hid hblk
    clear hv2 hown2 ho hdA os hblk k7
    go_wp2_with (first
      | (refine load_pic rfl (.tmp 5) rfl kc PP (.slice A2 DD.length c2) rfl HDB.out ?_)
      | (refine store_pic rfl (.tmp 2) (.tmp 54) rfl rfl kr PP pz (.slice A2 DD.length c2) (.slice none 0 0) rfl rfl HBB.out rfl ?_)
      | fail)
    intro wC hbC hoC
    have HQ : Hid (QQ (.returned (.tuple #[pcV PP (.slice A2 DD.length c2), iv 0])) wC) := Lib.hid (HRcG.out _ _ (csrc_off HVB.out hoC (fun h0 ad n c e hf => by have := Hblk.out ad n c e; have : ad.block = kr := hf; omega)) (by trivial) (HONB.out.then hoC (fun k hk => .inr (by rw [HRr.out, show k = kr from hk]; exact Nat.le_refl _))))
    have HbC := Lib.hid hbC
    clear hbC hoC
    go_wp2
    refine bodyPost_ret (v := .tuple #[pcV PP (.slice A2 DD.length c2), iv 0]) (results_pic rfl _ _ kr _ _ _ rfl HbC.out rfl) rfl ?_
    exact HQ.out
  · clear k7
    go_wp2_with (first
      | (refine store_pic rfl (.tmp 2) (.tmp 48) rfl rfl kr pz pz (.slice none 0 0) (.slice none 0 0) rfl rfl HB10.out rfl ?_)
      | fail)
    intro wC hbC hoC
    have HQ : Hid (QQ (.returned (.tuple #[pcV pz (.slice none 0 0), iv EE])) wC) := Lib.hid (HRcE.out _ hE0 (HON10.out.then hoC (fun k hk => .inr (by rw [HRr.out, show k = kr from hk]; exact Nat.le_refl _))))
    have HbC := Lib.hid hbC
    clear hbC hoC
    go_wp2
    refine bodyPost_ret (v := .tuple #[pcV pz (.slice none 0 0), iv EE]) (results_pic rfl _ _ kr _ _ _ rfl HbC.out rfl) rfl ?_
    exact HQ.out
end Go.Proofs.YtphpciglpnbblaaDoor
