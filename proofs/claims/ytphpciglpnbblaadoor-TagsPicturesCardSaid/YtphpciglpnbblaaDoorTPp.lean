/-
  The document's Picture.
-/
import Derived.Test.YtphpciglpnbblaaDoorTPq
import Derived.Test.YtphpciglpnbblaaDoorTPW
import Derived.Test.YtphpciglpnbblaaDoorTLw
namespace Go.Proofs.YtphpciglpnbblaaDoor
open Go.RowKit Go.Shelf

def pfs (p : Pc) : List Int := [p.k, p.w, p.h, p.b, p.c]
def okN (fs : List Int) (i : Nat) : Prop := 0 ≤ fs.getD i 0 ∧ fs.getD i 0 ≤ 4294967295 ∧ (i = 0 → fs.getD i 0 ≤ 20)
instance (fs : List Int) (i : Nat) : Decidable (okN fs i) := by unfold okN; infer_instance
def nuB (l : List Int) : List Nat := (l.map fun x => be 4 x.toNat).flatten
theorem pcE_ok (p : Pc) : ((∀ i, i < 5 → okN (pfs p) i) ↔ (0 ≤ p.k ∧ p.k ≤ 20 ∧ isW p.w = true ∧ isW p.h = true ∧ isW p.b = true ∧ isW p.c = true)) := by
  unfold isW
  simp only [decide_eq_true_eq]
  constructor
  · intro h
    have h0 := h 0 (by decide)
    have h1 := h 1 (by decide)
    have h2 := h 2 (by decide)
    have h3 := h 3 (by decide)
    have h4 := h 4 (by decide)
    unfold okN pfs at h0 h1 h2 h3 h4
    simp only [List.getD_cons_zero, List.getD_cons_succ] at h0 h1 h2 h3 h4
    exact ⟨h0.1, h0.2.2 trivial, ⟨h1.1, h1.2.1⟩, ⟨h2.1, h2.2.1⟩, ⟨h3.1, h3.2.1⟩, h4.1, h4.2.1⟩
  · rintro ⟨a, b, c, d, e, f⟩ i hi
    unfold okN pfs
    match i, hi with
    | 0, _ => exact ⟨a, by show p.k ≤ _; omega, fun _ => b⟩
    | 1, _ => exact ⟨c.1, c.2, fun h => by omega⟩
    | 2, _ => exact ⟨d.1, d.2, fun h => by omega⟩
    | 3, _ => exact ⟨e.1, e.2, fun h => by omega⟩
    | 4, _ => exact ⟨f.1, f.2, fun h => by omega⟩
theorem wrP_form (p : Pc) (bs : List Nat) : wrP p bs = be 4 p.k.toNat ++ be 4 p.m.size ++ nb p.m ++ be 4 p.t.size ++ nb p.t ++ nuB [p.w, p.h, p.b, p.c] ++ be 4 bs.length ++ bs := by
  unfold wrP nuB
  simp
def PmRel (w : World) (m : ByteArray) (s10 : Value) (wr : World) : Prop := ∃ i : Nat, i ≤ m.size ∧ s10 = iv i ∧ ((nb m).take i).all prB = true ∧ w = wr
def PnRel (w : World) (fs : List Int) (s11 : Value) (wr : World) : Prop := ∃ i : Nat, i ≤ 5 ∧ s11 = iv i ∧ (∀ j, j < i → okN fs j) ∧ w = wr
def PaRel (w : World) (pre : List Nat) (ts : List Int) (s12 s13 : Value) (wr : World) : Prop := ∃ i : Nat, 1 ≤ i ∧ i ≤ 5 ∧ s13 = iv i ∧ Owns wr w.heap.size 5 byt s12 (pre ++ nuB (ts.take (i - 1))) ∧ Only Nix w wr
set_option maxRecDepth 100000 in
set_option maxHeartbeats 8000000 in
theorem picture13_any {w : World} {p : Pc} {d : Value} {bs : List Nat} (hd : CSrc w d bs) (hm : p.m.size ≤ 20000) (ht : p.t.size ≤ 20000) (hb : bs.length ≤ 20000) :
    Calls Tryd.prog 18 #[.agg #[iv p.k, iv p.w, iv p.h, iv p.b, iv p.c], .string p.m, .string p.t, d] w fun e w' => WtR w (pcE p) (wrP p bs) e w' := by
  obtain ⟨Ad, cd, rfl, hcd⟩ := hd.form
  have hsm := hd.src.small
  obtain ⟨W1, hW1⟩ : ∃ W1, w.alloc (.cells #[iv p.k, iv p.w, iv p.h, iv p.b, iv p.c] 46) = W1 := ⟨_, rfl⟩
  have b1 := Box.new w 46 #[iv p.k, iv p.w, iv p.h, iv p.b, iv p.c]
  have HO1 := Lib.hid ((Only.refl Nix w).alloc (.cells #[iv p.k, iv p.w, iv p.h, iv p.b, iv p.c] 46))
  rw [hW1] at b1 HO1
  obtain ⟨g, hg⟩ : ∃ g, w.heap.size = g := ⟨_, rfl⟩
  have HC : Hid (∀ u, Only Nix W1 u → ∀ i, i < 5 → u.cell? ⟨g, i, none⟩ = some (iv ((pfs p).getD i 0))) := Lib.hid (fun u hu i hi => by
    have hb2 := b1.only hu (fun e => e)
    rw [hg] at hb2
    match i, hi with
    | 0, _ => exact hb2.cell 0
    | 1, _ => exact hb2.cell 1
    | 2, _ => exact hb2.cell 2
    | 3, _ => exact hb2.cell 3
    | 4, _ => exact hb2.cell 4)
  have HD := Lib.hid (hd.nix HO1.out)
  have HTx : Hid (∀ u, Calls Tryd.prog 27 #[.string p.t] u fun e w' => e = .returned (.bool (isT p.t)) ∧ u = w') := Lib.hid (fun u => text13_any p.t (by omega))
  have HBg : Hid (∀ u (x : Int), 0 ≤ x → x ≤ 4294967295 → Calls Tryd.prog 42 #[iv x, iv 4] u fun e w' => ∃ A c, e = .returned (.slice A 4 c) ∧ Owns w' u.heap.size 5 byt (.slice A 4 c) (be 4 x.toNat) ∧ CSrc w' (.slice A 4 c) (be 4 x.toNat) ∧ Only Nix u w') := Lib.hid (fun u x h0 h1 => by
    obtain ⟨n, rfl⟩ := Int.eq_ofNat_of_zero_le h0
    refine (big_any (w := u) 4 n (by decide) (by omega)).mono ?_
    rintro e w' ⟨v, rfl, h1, h2⟩
    obtain ⟨A, c, rfl⟩ := Owns.slice h1
    rw [be_len] at h1 ⊢
    exact ⟨A, c, rfl, h1, h1.csrc (by rw [be_len]; decide) (be_lt 4 n), h2⟩)
  have hE : pcE p = if isT p.t = true ∧ (nb p.m).all prB = true then (if 0 ≤ p.k ∧ p.k ≤ 20 ∧ isW p.w = true ∧ isW p.h = true ∧ isW p.b = true ∧ isW p.c = true then 0 else 10) else 12 := rfl
  have HQ12 : Hid ((nb p.m).all prB = false ∨ isT p.t = false → ∀ u, Only Nix w u → WtR w (pcE p) (wrP p bs) (.returned (.tuple #[.slice none 0 0, iv 12])) u) := Lib.hid (fun h u hu => by
    have : pcE p = 12 := by rw [hE, if_neg]; rintro ⟨h1, h2⟩; rcases h with h | h <;> simp_all
    rw [this]
    exact ⟨⟨_, rfl, by rw [if_neg (by decide)]; exact Owns.nil _ _ _ _⟩, hu⟩)
  have HQ10 : Hid ((nb p.m).all prB = true → isT p.t = true → ∀ i, i < 5 → ¬ okN (pfs p) i → ∀ u, Only Nix w u → WtR w (pcE p) (wrP p bs) (.returned (.tuple #[.slice none 0 0, iv 10])) u) := Lib.hid (fun h1 h2 i hi hn u hu => by
    have : pcE p = 10 := by rw [hE, if_pos ⟨h2, h1⟩, if_neg (fun h => hn ((pcE_ok p).2 h i hi))]
    rw [this]
    exact ⟨⟨_, rfl, by rw [if_neg (by decide)]; exact Owns.nil _ _ _ _⟩, hu⟩)
  have HQ0 : Hid ((nb p.m).all prB = true → isT p.t = true → (∀ i, i < 5 → okN (pfs p) i) → ∀ u v, Owns u w.heap.size 5 byt v (wrP p bs) → Only Nix w u → WtR w (pcE p) (wrP p bs) (.returned (.tuple #[v, iv 0])) u) := Lib.hid (fun h1 h2 h3 u v hv hu => by
    have : pcE p = 0 := by rw [hE, if_pos ⟨h2, h1⟩, if_pos ((pcE_ok p).1 h3)]
    rw [this]
    exact ⟨⟨_, rfl, by rw [if_pos rfl]; exact hv⟩, hu⟩)
  have Hm := Lib.hid hm
  have Ht := Lib.hid ht
  have Hb := Lib.hid hb
  have HWf := Lib.hid (wrP_form p bs)
  have hms : p.m.size ≤ 9223372036854775807 := by omega
  have hts : p.t.size ≤ 9223372036854775807 := by omega
  have HMl : Hid ((nb p.m).take p.m.size = nb p.m) := Lib.hid (List.take_of_length_le (by rw [nb_len]; exact Nat.le_refl _))
  have Hg := Lib.hid hg
  clear hE hd b1 hm ht hb hcd
  generalize WtR w (pcE p) (wrP p bs) = QQ at *
  go_enter Tryd.func18, Tryd.ntmps18
  go_wp2
  go_loopw [10] (fun s10 wr => PmRel W1 p.m s10 wr) (fun s10 _ => p.m.size - (intOf s10).toNat)
  case atStart => exact ⟨0, Nat.zero_le _, rfl, rfl, rfl⟩
  case round =>
    obtain ⟨i, hi, rfl, hall, rfl⟩ := hrel
    have HAl := Lib.hid hall
    clear hall
    by_cases hlt : i < p.m.size
    · have hlti : (i : Int) < (p.m.size : Int) := by omega
      obtain ⟨x, hx⟩ : ∃ x, p.m.get! i = x := ⟨_, rfl⟩
      have hg0 : ∀ h : i < p.m.size, p.m[i]'h = x := fun h => by rw [← hx]; exact (Utf8W.get!_of_lt p.m i h).symm
      have HN1 : Hid ((nb p.m).take (i + 1) = (nb p.m).take i ++ [x.toNat]) := Lib.hid (by rw [List.take_add_one, nb_at p.m i hlt, hx]; rfl)
      have HBad : Hid (prB x.toNat = false → (nb p.m).all prB = false) := Lib.hid (fun h => List.all_eq_false.2 ⟨x.toNat, List.mem_of_getElem? (i := i) (by rw [nb_at p.m i hlt, hx]), by rw [h]; decide⟩)
      clear hx
      by_cases h32 : x.toNat < 32
      · have h32i : (x.toNat : Int) < 32 := by omega
        have HF := Lib.hid (HQ12.out (.inl (HBad.out (by unfold prB; rw [decide_eq_false (by omega)]; rfl))) W1 HO1.out)
        go_wp2
        exact HF.out
      · have h32i : ¬ (x.toNat : Int) < 32 := by omega
        by_cases h126 : 126 < x.toNat
        · have h126i : (126 : Int) < (x.toNat : Int) := by omega
          have HF := Lib.hid (HQ12.out (.inl (HBad.out (by unfold prB; rw [decide_eq_false (p := x.toNat ≤ 126) (by omega), Bool.and_false]))) W1 HO1.out)
          go_wp2
          exact HF.out
        · have h126i : ¬ (126 : Int) < (x.toNat : Int) := by omega
          have hpr : prB x.toNat = true := by unfold prB; rw [decide_eq_true (by omega), decide_eq_true (by omega)]; rfl
          have HP := Lib.hid hpr
          clear hpr
          go_wp2
          go_roundw
          case rel => exact ⟨i + 1, hlt, by go_num, by rw [HN1.out, List.all_append, HAl.out, List.all_cons, HP.out]; rfl, rfl⟩
          case measure => simp [intOf]; omega
    · have hlti : ¬ (i : Int) < (p.m.size : Int) := by omega
      have HPM : Hid ((nb p.m).all prB = true) := Lib.hid (by rw [← HMl.out, ← show i = p.m.size by omega]; exact HAl.out)
      have HTx1 := Lib.hid (HTx.out W1)
      obtain ⟨T, hT⟩ : ∃ T, isT p.t = T := ⟨_, rfl⟩
      rw [hT] at HTx1 HQ12 HQ10 HQ0
      clear hT
      go_wp2_with fail
      refine (HTx1.out).mono ?_
      rintro e w1 ⟨rfl, rfl⟩
      cases T with
      | false =>
        have HF := Lib.hid (HQ12.out (.inr rfl) W1 HO1.out)
        go_wp2
        exact HF.out
      | true =>
        have HQT : Hid (∀ i, i < 5 → ¬ okN (pfs p) i → ∀ u, Only Nix w u → QQ (.returned (.tuple #[.slice none 0 0, iv 10])) u) := Lib.hid (HQ10.out HPM.out rfl)
        have HQG : Hid ((∀ i, i < 5 → okN (pfs p) i) → ∀ u v, Owns u w.heap.size 5 byt v (wrP p bs) → Only Nix w u → QQ (.returned (.tuple #[v, iv 0])) u) := Lib.hid (HQ0.out HPM.out rfl)
        clear HQ12 HQ10 HQ0 hlt hlti
        go_wp2
        go_loopw [11] (fun s11 wr => PnRel W1 (pfs p) s11 wr) (fun s11 _ => 5 - (intOf s11).toNat)
        case atStart => exact ⟨0, by omega, rfl, fun j hj => by omega, rfl⟩
        case round =>
          obtain ⟨i2, hi2, rfl, hok, rfl⟩ := hrel
          have HOk := Lib.hid hok
          clear hok
          by_cases hlt : i2 < 5
          · have hlti : (i2 : Int) < 5 := by omega
            have hc := HC.out W1 (Only.refl _ _) i2 hlt
            have hxi : okN (pfs p) i2 ↔ (0 ≤ (pfs p).getD i2 0 ∧ (pfs p).getD i2 0 ≤ 4294967295 ∧ (i2 = 0 → (pfs p).getD i2 0 ≤ 20)) := Iff.rfl
            have HQi := Lib.hid (HQT.out i2 hlt)
            generalize (pfs p).getD i2 0 = x at *
            have HXi := Lib.hid hxi
            clear hxi
            by_cases hx0 : x < 0
            · have HF := Lib.hid (HQi.out (fun h => by have := HXi.out.1 h; omega) W1 HO1.out)
              go_wp2
              exact HF.out
            · by_cases hx1 : 4294967295 < x
              · have HF := Lib.hid (HQi.out (fun h => by have := HXi.out.1 h; omega) W1 HO1.out)
                go_wp2
                exact HF.out
              · by_cases hi0 : i2 = 0
                · subst hi0
                  by_cases hx2 : 20 < x
                  · have HF := Lib.hid (HQi.out (fun h => by have := HXi.out.1 h; have := this.2.2 rfl; omega) W1 HO1.out)
                    go_wp2
                    exact HF.out
                  · have HI := Lib.hid (HXi.out.2 ⟨by omega, by omega, fun _ => by omega⟩)
                    go_wp2
                    go_roundw
                    case rel => exact ⟨1, by omega, by go_num, fun j hj => by rw [show j = 0 by omega]; exact HI.out, rfl⟩
                    case measure => simp [intOf]
                · have hi0i : ¬ (i2 : Int) = 0 := by omega
                  have HI := Lib.hid (HXi.out.2 ⟨by omega, by omega, fun h => absurd h hi0⟩)
                  go_wp2
                  go_roundw
                  case rel => exact ⟨i2 + 1, hlt, by go_num, fun j hj => by
                    rcases Nat.lt_or_ge j i2 with h | h
                    · exact HOk.out j h
                    · rw [show j = i2 by omega]; exact HI.out, rfl⟩
                  case measure => simp [intOf]; omega
          · have hlti : ¬ (i2 : Int) < 5 := by omega
            have HAll : Hid (∀ i, i < 5 → okN (pfs p) i) := Lib.hid (fun i hi => HOk.out i (by omega))
            have HBk := Lib.hid (HBg.out W1 p.k (HAll.out 0 (by decide)).1 (HAll.out 0 (by decide)).2.1)
            have hc0 : W1.cell? ⟨g, 0, none⟩ = some (iv p.k) := HC.out W1 (Only.refl _ _) 0 (by decide)
            clear hlt hi hi2 HQT
            go_wp2_with fail
            refine (HBk.out).mono ?_
            rintro e w2 ⟨A2, c2, rfl, hown2, _, ho⟩
            have HO2 := Lib.hid ho
            have HM2 := Lib.hid hown2
            have HBm := Lib.hid (HBg.out w2 (p.m.size : Nat) (by omega) (by have := Hm.out; omega))
            clear hown2 ho hc0
            go_wp2_with fail
            refine (HBm.out).mono ?_
            rintro e w3 ⟨A3, c3, rfl, _, hc3, ho⟩
            have HO3 := Lib.hid (HO2.out.trans ho)
            have HM3 := Lib.hid (HM2.out.nix ho)
            have HC3 := Lib.hid hc3
            clear hc3 ho
            go_wp2_with (at_builtin; refine app_bytes rfl (.tmp 60) (.tmp 63) rfl W1.heap.size (.slice A2 4 c2) (be 4 p.k.toNat) rfl HM3.out A3 4 c3 (be 4 (p.m.size : Int).toNat) rfl HC3.out.src ?len4 HO3.out.size ?rest4)
            case len4 => rw [be_len]; decide
            case rest4 =>
              intro v4 w4 h4 g4 m4
              have HM4 : Hid (Owns w4 W1.heap.size 5 byt v4 (be 4 p.k.toNat ++ be 4 p.m.size)) := Lib.hid h4
              have HO4 := Lib.hid (HO3.out.grown g4 (fun k hk => .inr (HM3.out.lt hk).1))
              clear h4 g4 m4
              go_wp2_with (at_builtin; refine app_str rfl (.tmp 65) (.tmp 66) rfl W1.heap.size v4 (be 4 p.k.toNat ++ be 4 p.m.size) rfl HM4.out p.m rfl ?len5 HO4.out.size ?rest5)
              case len5 => have := Hm.out; simp only [List.length_append, be_len]; omega
              case rest5 =>
                intro v5 w5 h5 g5 m5
                have HM5 : Hid (Owns w5 W1.heap.size 5 byt v5 (be 4 p.k.toNat ++ be 4 p.m.size ++ nb p.m)) := Lib.hid h5
                have HO5 := Lib.hid (HO4.out.grown g5 (fun k hk => .inr (HM4.out.lt hk).1))
                have HBt := Lib.hid (HBg.out w5 (p.t.size : Nat) (by omega) (by have := Ht.out; omega))
                clear h5 g5 m5
                go_wp2_with fail
                refine (HBt.out).mono ?_
                rintro e w6 ⟨A6, c6, rfl, _, hc6, ho⟩
                have HO6 := Lib.hid (HO5.out.trans ho)
                have HM6 := Lib.hid (HM5.out.nix ho)
                have HC6 := Lib.hid hc6
                clear hc6 ho
                go_wp2_with (at_builtin; refine app_bytes rfl (.tmp 68) (.tmp 71) rfl W1.heap.size v5 (be 4 p.k.toNat ++ be 4 p.m.size ++ nb p.m) rfl HM6.out A6 4 c6 (be 4 (p.t.size : Int).toNat) rfl HC6.out.src ?len7 HO6.out.size ?rest7)
                case len7 => have := Hm.out; simp only [List.length_append, be_len, nb_len]; omega
                case rest7 =>
                  intro v7 w7 h7 g7 m7
                  have HM7 : Hid (Owns w7 W1.heap.size 5 byt v7 (be 4 p.k.toNat ++ be 4 p.m.size ++ nb p.m ++ be 4 p.t.size)) := Lib.hid h7
                  have HO7 := Lib.hid (HO6.out.grown g7 (fun k hk => .inr (HM6.out.lt hk).1))
                  clear h7 g7 m7
                  go_wp2_with (at_builtin; refine app_str rfl (.tmp 73) (.tmp 74) rfl W1.heap.size v7 (be 4 p.k.toNat ++ be 4 p.m.size ++ nb p.m ++ be 4 p.t.size) rfl HM7.out p.t rfl ?len8 HO7.out.size ?rest8)
                  case len8 => have := Hm.out; have := Ht.out; simp only [List.length_append, be_len, nb_len]; omega
                  case rest8 =>
                    intro v8 w8 h8 g8 m8
                    have HM8 : Hid (Owns w8 W1.heap.size 5 byt v8 (be 4 p.k.toNat ++ be 4 p.m.size ++ nb p.m ++ be 4 p.t.size ++ nb p.t)) := Lib.hid (by simpa only [List.append_assoc] using h8)
                    have HO8 := Lib.hid (HO7.out.grown g8 (fun k hk => .inr (HM7.out.lt hk).1))
                    have HPl : Hid ((be 4 p.k.toNat ++ be 4 p.m.size ++ nb p.m ++ be 4 p.t.size ++ nb p.t).length ≤ 50000) := Lib.hid (by have := Hm.out; have := Ht.out; simp only [List.length_append, be_len, nb_len]; omega)
                    have HWf2 := HWf
                    generalize be 4 p.k.toNat ++ be 4 p.m.size ++ nb p.m ++ be 4 p.t.size ++ nb p.t = pre at *
                    clear h8 g8 m8
                    go_wp2
                    go_loopw [12, 13] (fun s12 s13 wr => PaRel W1 pre [p.w, p.h, p.b, p.c] s12 s13 wr) (fun _ s13 _ => 5 - (intOf s13).toNat)
                    case atStart => exact ⟨1, by omega, by omega, rfl, by simpa [nuB] using HM8.out, HO8.out⟩
                    case round =>
                      obtain ⟨i3, hi1, hi5, rfl, hown, ho⟩ := hrel
                      have HW := Lib.hid hown
                      have HOr := Lib.hid ho
                      have HLen : Hid ((pre ++ nuB ([p.w, p.h, p.b, p.c].take (i3 - 1))).length ≤ 50016) := Lib.hid (by
                        have := HPl.out
                        have h2 : ∀ l : List Int, (nuB l).length = 4 * l.length := fun l => by
                          induction l with
                          | nil => rfl
                          | cons x l ih => unfold nuB at *; simp [be_len, ih]; omega
                        rw [List.length_append, h2, List.length_take]
                        have : min (i3 - 1) [p.w, p.h, p.b, p.c].length ≤ 4 := Nat.min_le_right _ _
                        omega)
                      clear hown
                      by_cases hlt : i3 < 5
                      · have hlti : (i3 : Int) < 5 := by omega
                        have hc := HC.out wr ho i3 hlt
                        have hok := HAll.out i3 hlt
                        have HNx : Hid (nuB ([p.w, p.h, p.b, p.c].take (i3 + 1 - 1)) = nuB ([p.w, p.h, p.b, p.c].take (i3 - 1)) ++ be 4 ((pfs p).getD i3 0).toNat) := Lib.hid (by
                          match i3, hi1, hlt with
                          | 1, _, _ => simp [nuB, pfs]
                          | 2, _, _ => simp [nuB, pfs]
                          | 3, _, _ => simp [nuB, pfs]
                          | 4, _, _ => simp [nuB, pfs])
                        have hok2 := hok.2.1
                        have hok1 := hok.1
                        generalize (pfs p).getD i3 0 = x at *
                        have HBx := Lib.hid (HBg.out wr x hok1 hok2)
                        clear hok hok1 hok2 ho
                        go_wp2_with fail
                        refine (HBx.out).mono ?_
                        rintro e w9 ⟨A9, c9, rfl, _, hc9, ho⟩
                        have HO9 := Lib.hid (HOr.out.trans ho)
                        have HM9 := Lib.hid (HW.out.nix ho)
                        have HC9 := Lib.hid hc9
                        clear hc9 ho hc
                        go_wp2_with (at_builtin; refine app_bytes rfl (.tmp 80) (.tmp 84) rfl W1.heap.size u12 (pre ++ nuB ([p.w, p.h, p.b, p.c].take (i3 - 1))) rfl HM9.out A9 4 c9 (be 4 x.toNat) rfl HC9.out.src ?lenA HO9.out.size ?restA)
                        case lenA => have := HLen.out; omega
                        case restA =>
                          intro vA wA hA gA mA
                          have HMA := Lib.hid hA
                          have HOA := Lib.hid (HO9.out.grown gA (fun k hk => .inr (HM9.out.lt hk).1))
                          clear hA gA mA
                          go_wp2
                          go_roundw
                          case rel => exact ⟨i3 + 1, by omega, by omega, by go_num, by rw [HNx.out]; simpa only [List.append_assoc] using HMA.out, HOA.out⟩
                          case measure => simp [intOf]; omega
                      · obtain rfl : i3 = 5 := by omega
                        have HLen2 : Hid ((pre ++ nuB [p.w, p.h, p.b, p.c]).length ≤ 50016) := Lib.hid HLen.out
                        have HBd := Lib.hid (HBg.out wr (bs.length : Nat) (by omega) (by have := Hb.out; omega))
                        clear ho
                        go_wp2_with fail
                        refine (HBd.out).mono ?_
                        rintro e w9 ⟨A9, c9, rfl, _, hc9, ho⟩
                        have HO9 := Lib.hid (HOr.out.trans ho)
                        have HM9 := Lib.hid (HW.out.nix ho)
                        have HC9 := Lib.hid hc9
                        clear hc9 ho
                        go_wp2_with (at_builtin; refine app_bytes rfl (.tmp 86) (.tmp 89) rfl W1.heap.size u12 (pre ++ nuB [p.w, p.h, p.b, p.c]) rfl HM9.out A9 4 c9 (be 4 (bs.length : Int).toNat) rfl HC9.out.src ?lenA HO9.out.size ?restA)
                        case lenA => have := HLen2.out; omega
                        case restA =>
                          intro vA wA hA gA mA
                          have HMA : Hid (Owns wA W1.heap.size 5 byt vA (pre ++ nuB [p.w, p.h, p.b, p.c] ++ be 4 bs.length)) := Lib.hid (by simpa only [List.append_assoc, Int.toNat_natCast] using hA)
                          have HOA := Lib.hid (HO9.out.grown gA (fun k hk => .inr (HM9.out.lt hk).1))
                          have HDA := Lib.hid (HD.out.nix HOA.out)
                          clear hA gA mA
                          go_wp2_with (at_builtin; refine app_bytes rfl (.tmp 91) (.tmp 92) rfl W1.heap.size vA (pre ++ nuB [p.w, p.h, p.b, p.c] ++ be 4 bs.length) rfl HMA.out Ad bs.length cd bs rfl HDA.out.src ?lenB HOA.out.size ?restB)
                          case lenB => have := HLen2.out; have := Hb.out; rw [List.length_append, be_len]; omega
                          case restB =>
                            intro vB wB hB gB mB
                            have hMB : Owns wB w.heap.size 5 byt vB (wrP p bs) := by
                              rw [HWf2.out]
                              refine Owns.down ?_ HO1.out.size
                              simpa only [List.append_assoc] using hB
                            have hOB := HO1.out.trans (HOA.out.grown gB (fun k hk => .inr (HMA.out.lt hk).1))
                            have HF := Lib.hid (HQG.out HAll.out wB vB hMB hOB)
                            clear hB gB mB hMB hOB
                            go_wp2
                            exact HF.out
end Go.Proofs.YtphpciglpnbblaaDoor
