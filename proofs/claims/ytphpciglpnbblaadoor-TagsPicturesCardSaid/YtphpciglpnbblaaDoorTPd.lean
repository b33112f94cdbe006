/-
  The document's ReadPicture.
-/
import Derived.Test.YtphpciglpnbblaaDoorTPe
import Derived.Test.YtphpciglpnbblaaDoorTPp
import Derived.Test.YtphpciglpnbblaaDoorIR
namespace Go.Proofs.YtphpciglpnbblaaDoor
open Go.RowKit Go.Shelf

abbrev o5V : Array Value := #[iv 0, iv 0, iv 0, iv 0, iv 0]
abbrev a5T : TypeId := 46
/-- the numbers, as far as they are read: the j-th and those before it -/
def arN (k0 : Int) (H : Nat → Int) : Nat → Array Value
  | 0 => #[iv k0, iv 0, iv 0, iv 0, iv 0]
  | j + 1 => (arN k0 H j).setIfInBounds (j + 1) (iv (H j))
theorem arN_size (k0 : Int) (H : Nat → Int) : ∀ j, (arN k0 H j).size = 5
  | 0 => rfl
  | j + 1 => by unfold arN; rw [Array.size_setIfInBounds, arN_size k0 H j]
theorem arN_four (k0 : Int) (H : Nat → Int) : arN k0 H 4 = #[iv k0, iv (H 0), iv (H 1), iv (H 2), iv (H 3)] := rfl
theorem arN_at (k0 : Int) (F : Nat → Int) (t : Nat) : arN k0 (fun j => F (t + 4 * j)) 4 = #[iv k0, iv (F t), iv (F (t + 4)), iv (F (t + 8)), iv (F (t + 12))] := rfl
theorem results_rp {fn : Func} {p q r s t : Tmp} (h : fn.results = #[.cell p 46, .tmp q, .tmp r, .tmp s, .tmp t]) (tmps : Array Value) (w : World) (g : Nat) (cs : Array Value) (vq vr vs vt : Value) (hp : tmps.getD p undef = .pointer (some ⟨g, 0, none⟩)) (hB : Box w g a5T cs) (hz : cs.size = 5)
    (hq : tmps.getD q undef = vq) (hr : tmps.getD r undef = vr) (hs : tmps.getD s undef = vs) (ht : tmps.getD t undef = vt) :
    (results fn tmps).run Tryd.prog w = .ok (.tuple #[.agg cs, vq, vr, vs, vt]) w := by
  have h1 : (loadVar 46 ⟨g, 0, none⟩).run Tryd.prog w = .ok (.agg cs) w := run_loadVar_row w g _ _ _ (0, 0) _ hB Tryd.underlying46 rfl (by rw [hz]; kernel_rfl)
  have hp' : tmps[p]?.getD undef = .pointer (some ⟨g, 0, none⟩) := by simpa using hp
  have hq' : tmps[q]?.getD undef = vq := by simpa using hq
  have hr' : tmps[r]?.getD undef = vr := by simpa using hr
  have hs' : tmps[s]?.getD undef = vs := by simpa using hs
  have ht' : tmps[t]?.getD undef = vt := by simpa using ht
  simp [results, h, hp', hq', hr', hs', ht', asAddr, h1]
theorem five_one (a b c d e : Int) : (#[iv a, iv b, iv c, iv d, iv e] : Array Value).all (·.oneCell') = true := by simp; exact ⟨rfl, rfl, rfl, rfl, rfl⟩
/-- an array stored whole -/
theorem store_arr {w : World} {ops : Array Oper} {rest : List Oper} {o : Oper} {a : Act} {Q : Exit → Act → World → Prop} (hg : o.guard = none) (p x : Operand) (hop : o.op = Op.store 46 p x) (hd : o.dst = none)
    (b : Nat) (i j : Array Value) (hi : i.size = 5) (hj : j.size = 5) (hp : a.eval p = .pointer (some ⟨b, 0, none⟩)) (hx : a.eval x = .agg i) (hB : Box w b a5T j) (h1 : i.all (·.oneCell') = true)
    (h : ∀ w', Box w' b a5T i → Only (Just b) w w' → wpList Tryd.prog ops Q rest a w') : wpList Tryd.prog ops Q (o :: rest) a w := by
  refine wpList_plain hg fun K hK => ?_
  obtain ⟨h2, h3⟩ := box_setRow hB i
  have hr := run_storeVar_row (P := Tryd.prog) w b 46 46 j i hB (by rw [hi]; kernel_rfl) (by rw [hi, hj]) h1
  unfold Oper.wp execOp
  simp only [hop, Instr.storeAt, Instr.sureAddr, Sem.run_bind, Sem.run_pure, Result.andThen_ok, hp, hx, hr]
  have := hK (a.put o.dst undef) (w.setRow b i) (by rw [hd]; exact h _ h2 h3)
  exact this
theorem load_arr {w : World} {ops : Array Oper} {rest : List Oper} {o : Oper} {a : Act} {Q : Exit → Act → World → Prop} (hg : o.guard = none) (x : Operand) (ho : o.op = .load 46 x)
    (b : Nat) (i : Array Value) (hi : i.size = 5) (hx : a.eval x = .pointer (some ⟨b, 0, none⟩)) (hB : Box w b a5T i)
    (h : wpList Tryd.prog ops Q rest (a.put o.dst (.agg i)) w) : wpList Tryd.prog ops Q (o :: rest) a w :=
  wpList_load_row hg _ x ho b hx _ _ (0, 0) _ hB Tryd.underlying46 rfl (by rw [hi]; kernel_rfl) h
/-- the two arrays: the result's and the one that is filled -/
structure Ar (w W : World) (g2 g7 : Nat) (a : Array Value) : Prop where
  r : Box W g2 a5T o5V
  a : Box W g7 a5T a
  only : Only Nix w W
theorem Ar.put {w W : World} {g2 g7 : Nat} {a : Array Value} (h : Ar w W g2 g7 a) (hne : g2 ≠ g7) (hg : w.heap.size ≤ g7) (i : Nat) (x : Value) : Ar w (W.setCell ⟨g7, i, none⟩ x) g2 g7 (a.setIfInBounds i x) :=
  ⟨h.r.off hne x, h.a.put i x, h.only.then ((Only.refl (Just g7) W).setCell (p := ⟨g7, i, none⟩) (.inl rfl) x) (fun k hk => .inr (by rw [show k = g7 from hk]; exact hg))⟩
/-- what the document's ReadPicture answers -/
def RqR (w : World) (bs : List Nat) (e : Ending) (w' : World) : Prop :=
  (∃ d, e = .returned (.tuple #[.agg (if rpE bs = 0 then #[iv (rpP bs).k, iv (rpP bs).w, iv (rpP bs).h, iv (rpP bs).b, iv (rpP bs).c] else o5V), .string (if rpE bs = 0 then (rpP bs).m else ⟨#[]⟩), .string (if rpE bs = 0 then (rpP bs).t else ⟨#[]⟩), d, iv (rpE bs)]) ∧ CSrc w' d (if rpE bs = 0 then rpD bs else [])) ∧ Only Nix w w'
/-- the result's array while the last statement is under way -/
structure RgS (w : World) (g2 g7 : Nat) (arr : Array Value) (L : Nat → Bool) (x : World) : Prop where
  only : Only Nix w x
  a : Box x g7 a5T arr
  zero : L 7 = false → Box x g2 a5T o5V
  full : L 7 = true → Box x g2 a5T arr
theorem RgS.keep {w : World} {g2 g7 : Nat} {arr : Array Value} {L : Nat → Bool} {x : World} (h : RgS w g2 g7 arr L x) (i : Nat) (hi : 7 ≠ i) : RgS w g2 g7 arr (andOne L i) x :=
  ⟨h.only, h.a, fun e => h.zero (by rwa [andOne_ne hi] at e), fun e => h.full (by rwa [andOne_ne hi] at e)⟩
theorem RgS.stored {w : World} {g2 g7 : Nat} {arr : Array Value} {L : Nat → Bool} {x x' : World} (h : RgS w g2 g7 arr L x) (hb : Box x' g2 a5T arr) (ho : Only (Just g2) x x') (hg : w.heap.size ≤ g2) (hne : g2 ≠ g7) : RgS w g2 g7 arr (andOne L 7) x' :=
  ⟨h.only.then ho (fun k hk => .inr (by rw [show k = g2 from hk]; exact hg)), h.a.only ho (fun e => hne e.symm), (fun e => by rw [andOne_self] at e; cases e), fun _ => hb⟩
def RqRel (w : World) (g2 g7 : Nat) (k0 : Int) (H : Nat → Int) (t : Nat) (s9 s13 : Value) (wr : World) : Prop := ∃ j : Nat, j ≤ 4 ∧ s13 = iv ((j : Int) + 1) ∧ s9 = iv ((t : Int) + 4 * (j : Int)) ∧ Ar w wr g2 g7 (arN k0 H j)
set_option maxRecDepth 100000 in
set_option maxHeartbeats 8000000 in
theorem readP13_any {w : World} {x : Value} {bs : List Nat} (hs : CSrc w x bs) (hN : bs.length ≤ 20000) :
    Calls Tryd.prog 19 #[x] w fun e w' => RqR w bs e w' := by
  obtain ⟨A, c, rfl, hcap⟩ := hs.form
  obtain ⟨W1, hW1⟩ : ∃ W1, w.alloc (.cells o5V a5T) = W1 := ⟨_, rfl⟩
  have b2 := Box.new w a5T o5V
  have o1 := (Only.refl Nix w).alloc (.cells o5V a5T)
  rw [hW1] at b2 o1
  obtain ⟨W2, hW2⟩ : ∃ W2, W1.alloc (.cells o5V a5T) = W2 := ⟨_, rfl⟩
  have b7 := Box.new W1 a5T o5V
  have b3 := b2.alloc (.cells o5V a5T)
  have o2 := o1.alloc (.cells o5V a5T)
  rw [hW2] at b7 b3 o2
  have hlt2 : w.heap.size < W1.heap.size := b2.lt
  obtain ⟨g2, hg2⟩ : ∃ g2, w.heap.size = g2 := ⟨_, rfl⟩
  obtain ⟨g7, hg7⟩ : ∃ g7, W1.heap.size = g7 := ⟨_, rfl⟩
  have HNe : Hid (g2 ≠ g7) := Lib.hid (by omega)
  have HG7 : Hid (w.heap.size ≤ g7) := Lib.hid (by omega)
  have HG2 : Hid (w.heap.size ≤ g2) := Lib.hid (by omega)
  have HA0 : Hid (Ar w W2 g2 g7 o5V) := Lib.hid ⟨hg2 ▸ b3, hg7 ▸ b7, o2⟩
  have HHi : Hid (∀ u, Only Nix w u → ∀ k : Nat, k ≤ 1000000 → ∀ z : Int, z = k → Calls Tryd.prog 43 #[.slice A bs.length c, iv z, iv 4] u fun e w' => e = .returned (iv (highE (bs.drop k))) ∧ u = w') := Lib.hid (fun u hu k hk z hz => by
    subst hz
    exact high13 (hs.nix hu) k (by omega))
  have HHl : Hid (∀ k, -1 ≤ highE (bs.drop k) ∧ highE (bs.drop k) < 4294967296) := Lib.hid (fun k => high_lt _ (fun x hx => hs.src.lt x (List.mem_of_mem_drop hx)))
  have HCv : Hid (∀ u, Only Nix w u → ∀ i m : Nat, i + m ≤ bs.length → (convert 25 9 (.slice (cutA A c i) m (c - i))).run Tryd.prog u = .ok (.string (strN ((bs.drop i).take m))) u) := Lib.hid (fun u hu i m him => conv_src (csrc_win (hs.nix hu) i m him).src)
  have HSl : Hid (∀ i m : Nat, i + m ≤ bs.length → ∀ (p q : Int), p = i → q = i + m → ∀ u, (Instr.slice 25 (.slice A bs.length c) (some (.int .i64 p)) (some (.int .i64 q)) none).run Tryd.prog u = .ok (.slice (cutA A c i) m (c - i)) u) := Lib.hid (fun i m him p q hp hq u => by
    have := slice_win A bs.length c i (i + m) (by omega) (by omega) u
    rw [show i + m - i = m by omega] at this
    rw [hp, hq, ← this, Int.natCast_add])
  have HSf : Hid (∀ i : Nat, i ≤ bs.length → ∀ p : Int, p = i → ∀ u, (Instr.slice 25 (.slice A bs.length c) (some (.int .i64 p)) none none).run Tryd.prog u = .ok (.slice (cutA A c i) (bs.length - i) (c - i)) u) := Lib.hid (fun i hi p hp u => by
    rw [hp]
    exact slice_from A bs.length c i hi u)
  have HFr : Hid (∀ u, Only Nix w u → ∀ i, i ≤ bs.length → CSrc u (.slice (cutA A c i) (bs.length - i) (c - i)) (bs.drop i)) := Lib.hid (fun u hu i hi => csrc_from (hs.nix hu) i hi)
  have HPi : Hid (∀ u (p : Pc), p.m.size ≤ 20000 → p.t.size ≤ 20000 → Calls Tryd.prog 18 #[.agg #[iv p.k, iv p.w, iv p.h, iv p.b, iv p.c], .string p.m, .string p.t, .slice none 0 0] u fun e w' => WtR u (pcE p) (wrP p []) e w') := Lib.hid (fun u p h1 h2 => picture13_any (CSrc.nil u) h1 h2 (by simp))
  have HErr : Hid (∀ u E, rpE bs = E → E ≠ 0 → Only Nix w u → RqR w bs (.returned (.tuple #[.agg o5V, .string ⟨#[]⟩, .string ⟨#[]⟩, .slice none 0 0, iv E])) u) := Lib.hid (fun u E he hE hu => by
    subst he
    exact ⟨⟨_, by rw [if_neg hE, if_neg hE, if_neg hE], by rw [if_neg hE]; exact CSrc.nil _⟩, hu⟩)
  have HGod : Hid (∀ u d, rpE bs = 0 → CSrc u d (rpD bs) → Only Nix w u → RqR w bs (.returned (.tuple #[.agg #[iv (rpP bs).k, iv (rpP bs).w, iv (rpP bs).h, iv (rpP bs).b, iv (rpP bs).c], .string (rpP bs).m, .string (rpP bs).t, d, iv 0])) u) := Lib.hid (fun u d he hd hu => ⟨⟨d, by rw [he, if_pos rfl, if_pos rfl, if_pos rfl], by rw [if_pos he]; exact hd⟩, hu⟩)
  have R1 := Lib.hid (rp1 bs)
  have HSz := Lib.hid (rp_sz bs)
  have HN := Lib.hid hN
  have HCap := Lib.hid hcap
  clear hs hcap b2 b7 b3 o1 o2 hlt2
  generalize hQ : RqR w bs = QQ at *
  have k0 := HA0.out.a.cell 0
  have f0 := HA0.out.a.frozen 0
  simp only [List.getElem?_toArray, List.getElem?_cons_zero] at k0
  have HC0 := Lib.hid (HHi.out W2 HA0.out.only 0 (by decide) 0 rfl)
  rw [show bs.drop 0 = bs from rfl] at HC0
  obtain ⟨K0, hK0⟩ : ∃ K0, highE bs = K0 := ⟨_, rfl⟩
  have HK0 := Lib.hid hK0
  rw [hK0] at HC0
  clear hK0
  have HA1 := Lib.hid (HA0.out.put HNe.out HG7.out 0 (iv K0))
  go_enter Tryd.func19, Tryd.ntmps19
  go_wp2_with fail
  refine (HC0.out).mono ?_
  rintro e w1 ⟨rfl, rfl⟩
  go_wp2_with fail
  generalize W2.setCell ⟨g7, 0, none⟩ (iv K0) = W3 at *
  have HC1 := Lib.hid (HHi.out W3 HA1.out.only 4 (by decide) 4 rfl)
  have HB4 := Lib.hid (HHl.out 4)
  refine (HC1.out).mono ?_
  rintro e w1 ⟨rfl, rfl⟩
  obtain ⟨M, hM⟩ : ∃ M, highE (bs.drop 4) = M := ⟨_, rfl⟩
  rw [hM] at HB4 R1 ⊢
  have hb4 := HB4.out
  by_cases hneg : M < 0
  · have hE := R1.out (.inl hneg)
    go_wp2_with (first
      | (refine store_arr rfl (.tmp 2) (.tmp 31) rfl rfl g2 o5V o5V rfl rfl rfl rfl HA1.out.r (five_one 0 0 0 0 0) ?_)
      | fail)
    intro wC hbC hoC
    have HF := Lib.hid (HErr.out wC 11 hE (by decide) (HA1.out.only.then hoC (fun k hk => .inr (by rw [show k = g2 from hk]; exact HG2.out))))
    have HbC := Lib.hid hbC
    clear hbC hoC hE
    go_wp2
    refine bodyPost_ret (v := .tuple #[.agg o5V, .string ⟨#[]⟩, .string ⟨#[]⟩, .slice none 0 0, iv 11]) (results_rp rfl _ _ g2 o5V _ _ _ _ rfl HbC.out rfl rfl rfl rfl rfl) rfl ?_
    exact HF.out
  · obtain ⟨m, rfl⟩ := Int.eq_ofNat_of_zero_le (show 0 ≤ M by omega)
    by_cases hlen : 8 + m ≤ bs.length
    · have hgt : ¬ (bs.length : Int) < 8 + (m : Int) := by omega
      have HMe := Lib.hid hM
      have HL8 := Lib.hid hlen
      have HC2 := Lib.hid (HHi.out W3 HA1.out.only (8 + m) (by omega) (8 + (m : Int)) (by omega))
      have HB2 := Lib.hid (HHl.out (8 + m))
      have R2 := Lib.hid (rp2 bs m hM hlen)
      clear hM hlen
      go_wp2_with fail
      refine (HC2.out).mono ?_
      rintro e w1 ⟨rfl, rfl⟩
      obtain ⟨L, hL⟩ : ∃ L, highE (bs.drop (8 + m)) = L := ⟨_, rfl⟩
      rw [hL] at HB2 R2 ⊢
      have hb2 := HB2.out
      by_cases hneg2 : L < 0
      · have hE := R2.out (.inl hneg2)
        clear hL
        go_wp2_with (first
          | (refine store_arr rfl (.tmp 2) (.tmp 48) rfl rfl g2 o5V o5V rfl rfl rfl rfl HA1.out.r (five_one 0 0 0 0 0) ?_)
          | fail)
        intro wC hbC hoC
        have HF := Lib.hid (HErr.out wC 11 hE (by decide) (HA1.out.only.then hoC (fun k hk => .inr (by rw [show k = g2 from hk]; exact HG2.out))))
        have HbC := Lib.hid hbC
        clear hbC hoC
        go_wp2
        refine bodyPost_ret (v := .tuple #[.agg o5V, .string ⟨#[]⟩, .string ⟨#[]⟩, .slice none 0 0, iv 11]) (results_rp rfl _ _ g2 o5V _ _ _ _ rfl HbC.out rfl rfl rfl rfl rfl) rfl ?_
        exact HF.out
      · obtain ⟨l, rfl⟩ := Int.eq_ofNat_of_zero_le (show 0 ≤ L by omega)
        by_cases hle : 8 + m + 4 + l ≤ bs.length
        · have hgt2 : ¬ (bs.length : Int) < 8 + (m : Int) + 4 + (l : Int) := by omega
          have HLe := Lib.hid hL
          have HLL := Lib.hid hle
          have hsl1 := HSl.out 8 m HL8.out 8 (8 + (m : Int)) rfl rfl
          have hcv1 := HCv.out W3 HA1.out.only 8 m HL8.out
          have hsl2 := HSl.out (8 + m + 4) l hle (8 + (m : Int) + 4) (8 + (m : Int) + 4 + (l : Int)) (by omega) (by omega)
          have hcv2 := HCv.out W3 HA1.out.only (8 + m + 4) l hle
          obtain ⟨S1, hS1⟩ : ∃ S1, strN ((bs.drop 8).take m) = S1 := ⟨_, rfl⟩
          obtain ⟨S2, hS2⟩ : ∃ S2, strN ((bs.drop (8 + m + 4)).take l) = S2 := ⟨_, rfl⟩
          have HS1 := Lib.hid hS1
          have HS2 := Lib.hid hS2
          rw [hS1] at hcv1
          rw [hS2] at hcv2
          have HQ3 := Lib.hid (q3_at bs (8 + m) l (q2_at bs m HMe.out HL8.out).2.2.2 hL hle).2.2
          have HFo := Lib.hid (rp_form bs m l)
          generalize cutA A c 8 = A8 at *
          generalize c - 8 = c8 at *
          generalize cutA A c (8 + m + 4) = A9 at *
          generalize c - (8 + m + 4) = c9 at *
          obtain ⟨t, ht⟩ : ∃ t, 8 + m + 4 + l = t := ⟨_, rfl⟩
          have Ht : Hid ((t : Int) = 8 + (m : Int) + 4 + (l : Int)) := Lib.hid (by omega)
          have Htl : Hid (t ≤ bs.length) := Lib.hid (by omega)
          rw [ht] at HQ3 HFo
          have R3 := Lib.hid (rp3 bs t HQ3.out)
          clear hL hle hS1 hS2 ht
          go_wp2
          go_loopw [9, 13] (fun s9 s13 wr => RqRel w g2 g7 K0 (fun j => highE (bs.drop (t + 4 * j))) t s9 s13 wr) (fun _ s13 _ => 5 - (intOf s13).toNat)
          case atStart => exact ⟨0, by omega, rfl, by rw [Ht.out]; go_num, HA1.out⟩
          case round =>
            obtain ⟨j, hj, rfl, rfl, har⟩ := hrel
            have htl := Htl.out
            have HAr := Lib.hid har
            by_cases hj4 : j < 4
            · have hj4i : (j : Int) + 1 < 5 := by omega
              have HCj := Lib.hid (HHi.out wr har.only (t + 4 * j) (by have := Htl.out; omega) ((t : Int) + 4 * (j : Int)) (by omega))
              have hkj : ∃ old, wr.cell? ⟨g7, j + 1, none⟩ = some old := ⟨_, (har.a.cell (j + 1)).trans (Array.getElem?_eq_getElem (by rw [arN_size]; omega))⟩
              obtain ⟨old, hkj⟩ := hkj
              have hfj := har.a.frozen (j + 1)
              have HPj := Lib.hid (har.put HNe.out HG7.out (j + 1) (iv (highE (bs.drop (t + 4 * j)))))
              clear har
              go_wp2_with fail
              refine (HCj.out).mono ?_
              rintro e w1 ⟨rfl, rfl⟩
              go_wp2
              go_roundw
              case rel => exact ⟨j + 1, hj4, by go_num, by go_num, HPj.out⟩
              case measure => simp [intOf]; omega
            · obtain rfl : j = 4 := by omega
              clear har
              obtain ⟨u, hu⟩ : ∃ u, t + 16 = u := ⟨_, rfl⟩
              rw [show (t : Int) + 4 * ((4 : Nat) : Int) = (u : Int) by omega, show ((4 : Nat) : Int) + 1 = 5 by omega]
              have htu : u ≤ 20016 := by omega
              have HCd := Lib.hid (HHi.out wr HAr.out.only u (by omega) (u : Int) rfl)
              have HBd := Lib.hid (HHl.out u)
              have R4 : Hid (highE (bs.drop u) < 0 ∨ (bs.length : Int) < (u : Int) + 4 + highE (bs.drop u) → rpE bs = 11) := Lib.hid (fun h => R3.out (by rw [hu]; rcases h with h | h; exact .inl h; exact .inr (by omega)))
              have HDr : Hid (∀ dl : Nat, highE (bs.drop (t + 16)) = dl → t + 16 + 4 + dl ≤ bs.length → rpE bs = (if t + 16 + 4 + dl < bs.length then 12 else pcE (rpP bs)) ∧ rpP bs = ⟨K0, S1, S2, highE (bs.drop t), highE (bs.drop (t + 4)), highE (bs.drop (t + 8)), highE (bs.drop (t + 12))⟩ ∧ rpD bs = (bs.drop (t + 16 + 4)).take dl) := Lib.hid (fun dl h1 h2 => by
                have := HFo.out dl HMe.out HL8.out HLe.out Htl.out h1 h2
                rw [HS1.out, HS2.out, HK0.out] at this
                exact this)
              rw [hu] at HDr
              clear HFo R3 hu htl
              go_wp2_with fail
              refine (HCd.out).mono ?_
              rintro e w1 ⟨rfl, rfl⟩
              obtain ⟨D, hD⟩ : ∃ D, highE (bs.drop u) = D := ⟨_, rfl⟩
              rw [hD] at HBd R4 HDr ⊢
              have hbd := HBd.out
              by_cases hneg3 : D < 0
              · have hE := R4.out (.inl hneg3)
                clear hD
                go_wp2_with (first
                  | (refine store_arr rfl (.tmp 2) (.tmp 92) rfl rfl g2 o5V o5V rfl rfl rfl rfl HAr.out.r (five_one 0 0 0 0 0) ?_)
                  | fail)
                intro wC hbC hoC
                have HF := Lib.hid (HErr.out wC 11 hE (by decide) (HAr.out.only.then hoC (fun k hk => .inr (by rw [show k = g2 from hk]; exact HG2.out))))
                have HbC := Lib.hid hbC
                clear hbC hoC
                go_wp2
                refine bodyPost_ret (v := .tuple #[.agg o5V, .string ⟨#[]⟩, .string ⟨#[]⟩, .slice none 0 0, iv 11]) (results_rp rfl _ _ g2 o5V _ _ _ _ rfl HbC.out rfl rfl rfl rfl rfl) rfl ?_
                exact HF.out
              · obtain ⟨dl, rfl⟩ := Int.eq_ofNat_of_zero_le (show 0 ≤ D by omega)
                by_cases hld : u + 4 + dl ≤ bs.length
                · have hgt3 : ¬ (bs.length : Int) < (u : Int) + 4 + (dl : Int) := by omega
                  have hbn : decide ((dl : Int) < 0) = false := decide_eq_false hneg3
                  have hbg : decide ((bs.length : Int) < (u : Int) + 4 + (dl : Int)) = false := decide_eq_false hgt3
                  obtain ⟨e1, e2, e3⟩ := HDr.out dl rfl hld
                  have E3 := Lib.hid e3
                  by_cases hlx : u + 4 + dl < bs.length
                  · have hlxi : (u : Int) + 4 + (dl : Int) < (bs.length : Int) := by omega
                    have hbx : decide ((u : Int) + 4 + (dl : Int) < (bs.length : Int)) = true := decide_eq_true hlxi
                    have hE : rpE bs = 12 := by rw [e1, if_pos hlx]
                    clear hD e1 e2 e3 hld hlx HDr R4
                    go_wp2_with (first
                      | (refine store_arr rfl (.tmp 2) (.tmp 100) rfl rfl g2 o5V o5V rfl rfl rfl rfl HAr.out.r (five_one 0 0 0 0 0) ?_)
                      | fail)
                    intro wC hbC hoC
                    have HF := Lib.hid (HErr.out wC 12 hE (by decide) (HAr.out.only.then hoC (fun k hk => .inr (by rw [show k = g2 from hk]; exact HG2.out))))
                    have HbC := Lib.hid hbC
                    clear hbC hoC
                    go_wp2
                    refine bodyPost_ret (v := .tuple #[.agg o5V, .string ⟨#[]⟩, .string ⟨#[]⟩, .slice none 0 0, iv 12]) (results_rp rfl _ _ g2 o5V _ _ _ _ rfl HbC.out rfl rfl rfl rfl rfl) rfl ?_
                    exact HF.out
                  · have hlxi : ¬ (u : Int) + 4 + (dl : Int) < (bs.length : Int) := by omega
                    have hbx : decide ((u : Int) + 4 + (dl : Int) < (bs.length : Int)) = false := decide_eq_false hlxi
                    have HE : Hid (rpE bs = pcE (rpP bs)) := Lib.hid (by rw [e1, if_neg hlx])
                    have Hde : Hid (u + 4 + dl = bs.length) := Lib.hid (by omega)
                    have hA5 : Box wr g7 a5T #[iv K0, iv (highE (bs.drop t)), iv (highE (bs.drop (t + 4))), iv (highE (bs.drop (t + 8))), iv (highE (bs.drop (t + 12)))] := by
                      have := HAr.out.a
                      rwa [arN_at K0 (fun z => highE (bs.drop z)) t] at this
                    obtain ⟨n0, hn0⟩ : ∃ n0, highE (bs.drop t) = n0 := ⟨_, rfl⟩
                    obtain ⟨n1, hn1⟩ : ∃ n1, highE (bs.drop (t + 4)) = n1 := ⟨_, rfl⟩
                    obtain ⟨n2, hn2⟩ : ∃ n2, highE (bs.drop (t + 8)) = n2 := ⟨_, rfl⟩
                    obtain ⟨n3, hn3⟩ : ∃ n3, highE (bs.drop (t + 12)) = n3 := ⟨_, rfl⟩
                    rw [hn0, hn1, hn2, hn3] at hA5 e2
                    have HA5 := Lib.hid hA5
                    have E2 := Lib.hid e2
                    have hpk := HPi.out wr ⟨K0, S1, S2, n0, n1, n2, n3⟩ (by have := HSz.out.1; have := HN.out; rw [e2] at *; omega) (by have := HSz.out.2.1; have := HN.out; rw [e2] at *; omega)
                    dsimp only at hpk
                    rw [← e2] at hpk
                    have HPk := Lib.hid hpk
                    clear hpk hA5 hn0 hn1 hn2 hn3
                    have hsl := HSf.out (u + 4) (by omega) ((u : Int) + 4) (by omega)
                    have HDat : Hid (∀ x0, Only Nix w x0 → CSrc x0 (.slice (cutA A c (u + 4)) (bs.length - (u + 4)) (c - (u + 4))) (rpD bs)) := Lib.hid (fun x0 hx0 => by
                      have := HFr.out x0 hx0 (u + 4) (by omega)
                      rwa [← List.take_of_length_le (l := bs.drop (u + 4)) (i := dl) (by rw [List.length_drop]; omega), ← e3] at this)
                    generalize cutA A c (u + 4) = AX at *
                    generalize bs.length - (u + 4) = nX at *
                    generalize c - (u + 4) = cX at *
                    clear hD e1 e2 e3 hld hlx HDr
                    unfold WtR at HPk
                    go_wp2_with (first
                      | (refine load_arr rfl (.tmp 7) rfl g7 #[iv K0, iv n0, iv n1, iv n2, iv n3] rfl rfl HA5.out ?_)
                      | fail)
                    refine (HPk.out).mono ?_
                    rintro e w5 ⟨⟨v5, rfl, _⟩, ho⟩
                    have HO5 := Lib.hid (HAr.out.only.trans ho)
                    have HR5 := Lib.hid (HAr.out.r.only ho (fun e => e))
                    have HA55 := Lib.hid (HA5.out.only ho (fun e => e))
                    obtain ⟨PE, hPE⟩ : ∃ PE, pcE (rpP bs) = PE := ⟨_, rfl⟩
                    rw [hPE] at HE ⊢
                    clear ho hPE
                    have HAr5 : Hid (Ar w w5 g2 g7 #[iv K0, iv n0, iv n1, iv n2, iv n3]) := Lib.hid ⟨HR5.out, HA55.out, HO5.out⟩
                    by_cases hp0 : PE = 0
                    · subst hp0
                      have c0 := HA55.out.cell 0
                      have c1 := HA55.out.cell 1
                      have c2 := HA55.out.cell 2
                      have c3 := HA55.out.cell 3
                      have c4 := HA55.out.cell 4
                      have r0 := HR5.out.cell 0
                      have r1 := HR5.out.cell 1
                      have r2 := HR5.out.cell 2
                      have r3 := HR5.out.cell 3
                      have r4 := HR5.out.cell 4
                      have f0 := HR5.out.frozen 0
                      have f1 := HR5.out.frozen 1
                      have f2 := HR5.out.frozen 2
                      have f3 := HR5.out.frozen 3
                      have f4 := HR5.out.frozen 4
                      simp only [List.getElem?_toArray, List.getElem?_cons_zero, List.getElem?_cons_succ] at c0 c1 c2 c3 c4 r0 r1 r2 r3 r4
                      go_wp2_with fail
                      have fr_E : ∀ j s, j < 12 → (([some 112, some 113, some 114, some 115, some 116, some 117, some 118, none, some 3, some 4, some 5, some 6] : List (Option Nat)).all fun d => d != some s) = true → ([some 112, some 113, some 114, some 115, some 116, some 117, some 118, none, some 3, some 4, some 5, some 6] : List (Option Nat)).getD j none ≠ some s := by
                        intro j s hj ha e
                        rw [List.getD_eq_getElem?_getD, List.getElem?_eq_getElem (by exact hj), Option.getD_some] at e
                        have := List.all_eq_true.1 ha _ (List.getElem_mem (by exact hj))
                        rw [e] at this
                        simp at this
                      refine region_tel (by kernel_rfl) (fun k0 => ([some 112, some 113, some 114, some 115, some 116, some 117, some 118, none, some 3, some 4, some 5, some 6] : List (Option Nat)).getD k0 none) (PL [eqP (.agg #[iv K0, iv n0, iv n1, iv n2, iv n3]), eqP (.string S1), eqP (.string S2), eqP (.slice A bs.length c), eqP (iv (u : Int)), eqP (iv ((u : Int) + 4)), eqP (.slice AX nX cX), (fun _ _ => True), eqP (.string S1), eqP (.string S2), eqP (.slice AX nX cX), eqP (iv 0)]) (fun _ _ => True) (fun L x => RgS w g2 g7 #[iv K0, iv n0, iv n1, iv n2, iv n3] L x) 119 12 rfl (by kernel_rfl) (by kernel_rfl) rfl (by kernel_rfl) (by kernel_rfl) (stab_all ⟨fun _ _ _ h _ => h, fun _ _ _ h _ => h, fun _ _ _ h _ => h, fun _ _ _ h _ => h, fun _ _ _ h _ => h, fun _ _ _ h _ => h, fun _ _ _ h _ => h, fun _ _ _ h _ => h, fun _ _ _ h _ => h, fun _ _ _ h _ => h, fun _ _ _ h _ => h, fun _ _ _ h _ => h, trivial⟩) (⟨HO5.out.drewN 1, HA55.out, fun _ => HR5.out, fun e => by cases e⟩) ?stepsE (fun vs => [(112, vs 0), (113, vs 1), (114, vs 2), (115, vs 3), (116, vs 4), (117, vs 5), (118, vs 6), (3, vs 8), (4, vs 9), (5, vs 10), (6, vs 11)]) (fun vs => rfl) ?doneE
                      case stepsE =>
                        refine ⟨?_, ?_, ?_, ?_, ?_, ?_, ?_, ?_, ?_, ?_, ?_, ?_, trivial⟩
                        · intro L vs A' u' hW hL0 hnd K' hK
                          have hS := hW.wi.s
                          have r7 : A'.tmps[7]? = some (.pointer (some ⟨g7, 0, none⟩)) := (hW.out 7 (fun j hj => fr_E j 7 hj (by kernel_rfl))).trans rfl
                          have hba := hS.a
                          have c0 := hba.cell 0
                          have c1 := hba.cell 1
                          have c2 := hba.cell 2
                          have c3 := hba.cell 3
                          have c4 := hba.cell 4
                          simp only [List.getElem?_toArray, List.getElem?_cons_zero, List.getElem?_cons_succ] at c0 c1 c2 c3 c4
                          go_simp
                          exact hK _ _ (by first | rfl | (show _ = _; simp)) trivial (hS.keep 0 (by decide))
                        · intro L vs A' u' hW hL0 hnd K' hK
                          have hS := hW.wi.s
                          have r11 : A'.tmps[11]? = some (.string S1) := (hW.out 11 (fun j hj => fr_E j 11 hj (by kernel_rfl))).trans rfl
                          go_simp
                          exact hK _ _ (by first | rfl | (show _ = _; simp)) trivial (hS.keep 1 (by decide))
                        · intro L vs A' u' hW hL0 hnd K' hK
                          have hS := hW.wi.s
                          have r12 : A'.tmps[12]? = some (.string S2) := (hW.out 12 (fun j hj => fr_E j 12 hj (by kernel_rfl))).trans rfl
                          go_simp
                          exact hK _ _ (by first | rfl | (show _ = _; simp)) trivial (hS.keep 2 (by decide))
                        · intro L vs A' u' hW hL0 hnd K' hK
                          have hS := hW.wi.s
                          have r0 : A'.tmps[0]? = some (.slice A bs.length c) := (hW.out 0 (fun j hj => fr_E j 0 hj (by kernel_rfl))).trans rfl
                          go_simp
                          exact hK _ _ (by first | rfl | (show _ = _; simp)) trivial (hS.keep 3 (by decide))
                        · intro L vs A' u' hW hL0 hnd K' hK
                          have hS := hW.wi.s
                          have r9 : A'.tmps[9]? = some (iv (u : Int)) := (hW.out 9 (fun j hj => fr_E j 9 hj (by kernel_rfl))).trans rfl
                          go_simp
                          exact hK _ _ (by first | rfl | (show _ = _; simp)) trivial (hS.keep 4 (by decide))
                        · intro L vs A' u' hW hL0 hnd K' hK
                          have hS := hW.wi.s
                          have r116 : A'.tmps[116]? = some (iv (u : Int)) := by
                            obtain ⟨x, e, h⟩ := hW.tel 4 116 (by decide) (hnd 4 (by kernel_rfl)) rfl
                            rw [e]; exact congrArg some h
                          have hwr : IntKind.i64.wrap ((u : Int) + 4) = (u : Int) + 4 := by rw [IntKind.wrap_i64]; omega
                          go_simp
                          exact hK _ _ (by first | rfl | (show _ = _; simp)) trivial (hS.keep 5 (by decide))
                        · intro L vs A' u' hW hL0 hnd K' hK
                          have hS := hW.wi.s
                          have r115 : A'.tmps[115]? = some (.slice A bs.length c) := by
                            obtain ⟨x, e, h⟩ := hW.tel 3 115 (by decide) (hnd 3 (by kernel_rfl)) rfl
                            rw [e]; exact congrArg some h
                          have r117 : A'.tmps[117]? = some (iv ((u : Int) + 4)) := by
                            obtain ⟨x, e, h⟩ := hW.tel 5 117 (by decide) (hnd 5 (by kernel_rfl)) rfl
                            rw [e]; exact congrArg some h
                          go_simp
                          exact hK _ _ (by first | rfl | (show _ = _; simp)) trivial (hS.keep 6 (by decide))
                        · intro L vs A' u' hW hL0 hnd K' hK
                          have hS := hW.wi.s
                          have r2 : A'.tmps[2]? = some (.pointer (some ⟨g2, 0, none⟩)) := (hW.out 2 (fun j hj => fr_E j 2 hj (by kernel_rfl))).trans rfl
                          have r112 : A'.tmps[112]? = some (.agg #[iv K0, iv n0, iv n1, iv n2, iv n3]) := by
                            obtain ⟨x, e, h⟩ := hW.tel 0 112 (by decide) (hnd 0 (by kernel_rfl)) rfl
                            rw [e]; exact congrArg some h
                          have hz := hS.zero hL0
                          have r0' := hz.cell 0
                          have r1' := hz.cell 1
                          have r2' := hz.cell 2
                          have r3' := hz.cell 3
                          have r4' := hz.cell 4
                          have f0 := hz.frozen 0
                          have f1 := hz.frozen 1
                          have f2 := hz.frozen 2
                          have f3 := hz.frozen 3
                          have f4 := hz.frozen 4
                          simp only [List.getElem?_toArray, List.getElem?_cons_zero, List.getElem?_cons_succ] at r0' r1' r2' r3' r4'
                          have hbx := ((((hz.put 0 (iv K0)).put 1 (iv n0)).put 2 (iv n1)).put 3 (iv n2)).put 4 (iv n3)
                          have ho := (((((Only.refl (Just g2) u').setCell (p := ⟨g2, 0, none⟩) (.inl rfl) (iv K0)).setCell (p := ⟨g2, 1, none⟩) (.inl rfl) (iv n0)).setCell (p := ⟨g2, 2, none⟩) (.inl rfl) (iv n1)).setCell (p := ⟨g2, 3, none⟩) (.inl rfl) (iv n2)).setCell (p := ⟨g2, 4, none⟩) (.inl rfl) (iv n3)
                          go_simp
                          exact hK undef _ trivial trivial (hS.stored hbx (ho : Only (Just g2) u' _) HG2.out HNe.out)
                        · intro L vs A' u' hW hL0 hnd K' hK
                          have hS := hW.wi.s
                          have r113 : A'.tmps[113]? = some (.string S1) := by
                            obtain ⟨x, e, h⟩ := hW.tel 1 113 (by decide) (hnd 1 (by kernel_rfl)) rfl
                            rw [e]; exact congrArg some h
                          go_simp
                          exact hK _ _ (by first | rfl | (show _ = _; simp)) trivial (hS.keep 8 (by decide))
                        · intro L vs A' u' hW hL0 hnd K' hK
                          have hS := hW.wi.s
                          have r114 : A'.tmps[114]? = some (.string S2) := by
                            obtain ⟨x, e, h⟩ := hW.tel 2 114 (by decide) (hnd 2 (by kernel_rfl)) rfl
                            rw [e]; exact congrArg some h
                          go_simp
                          exact hK _ _ (by first | rfl | (show _ = _; simp)) trivial (hS.keep 9 (by decide))
                        · intro L vs A' u' hW hL0 hnd K' hK
                          have hS := hW.wi.s
                          have r118 : A'.tmps[118]? = some (.slice AX nX cX) := by
                            obtain ⟨x, e, h⟩ := hW.tel 6 118 (by decide) (hnd 6 (by kernel_rfl)) rfl
                            rw [e]; exact congrArg some h
                          go_simp
                          exact hK _ _ (by first | rfl | (show _ = _; simp)) trivial (hS.keep 10 (by decide))
                        · intro L vs A' u' hW hL0 hnd K' hK
                          have hS := hW.wi.s
                          go_simp
                          exact hK _ _ (by first | rfl | (show _ = _; simp)) trivial (hS.keep 11 (by decide))
                      case doneE =>
                        intro L vs u3 hS hP hall
                        have hall7 := hall 7 (by decide)
                        have e0 : vs 0 = .agg #[iv K0, iv n0, iv n1, iv n2, iv n3] := hP 0 (by decide)
                        have e1 : vs 1 = .string S1 := hP 1 (by decide)
                        have e2 : vs 2 = .string S2 := hP 2 (by decide)
                        have e3 : vs 3 = .slice A bs.length c := hP 3 (by decide)
                        have e4 : vs 4 = iv (u : Int) := hP 4 (by decide)
                        have e5 : vs 5 = iv ((u : Int) + 4) := hP 5 (by decide)
                        have e6 : vs 6 = .slice AX nX cX := hP 6 (by decide)
                        have e8 : vs 8 = .string S1 := hP 8 (by decide)
                        have e9 : vs 9 = .string S2 := hP 9 (by decide)
                        have e10 : vs 10 = .slice AX nX cX := hP 10 (by decide)
                        have e11 : vs 11 = iv 0 := hP 11 (by decide)
                        simp only [putV, List.foldl_cons, List.foldl_nil, List.setIfInBounds_toArray, List.set_cons_zero, List.set_cons_succ, e0, e1, e2, e3, e4, e5, e6, e8, e9, e10, e11]
                        clear e0 e1 e2 e3 e4 e5 e6 e8 e9 e10 e11 hP hall fr_E
                        have hb3 := hS.full (hall7)
                        have ho3 := hS.only
                        have HF := Lib.hid (HGod.out u3 (.slice AX nX cX) HE.out (HDat.out u3 ho3) ho3)
                        rw [E2.out] at HF
                        clear ho3 hS
                        go_wp2
                        refine bodyPost_ret (v := .tuple #[.agg #[iv K0, iv n0, iv n1, iv n2, iv n3], .string S1, .string S2, .slice AX nX cX, iv 0]) (results_rp rfl _ _ g2 #[iv K0, iv n0, iv n1, iv n2, iv n3] _ _ _ _ rfl hb3 rfl rfl rfl rfl rfl) rfl ?_
                        exact HF.out
                    · clear hsl
                      have hpb : (PE == 0) = false := by simp [hp0]
                      have hpd : decide (PE = 0) = false := decide_eq_false hp0
                      have hpn : (PE != 0) = true := by simp [hp0]
                      go_wp2_with (first
                        | (refine store_arr rfl (.tmp 2) (.tmp 110) rfl rfl g2 o5V o5V rfl rfl rfl rfl HAr5.out.r (five_one 0 0 0 0 0) ?_)
                        | fail)
                      intro wC hbC hoC
                      have HF := Lib.hid (HErr.out wC PE HE.out hp0 (HAr5.out.only.then hoC (fun k hk => .inr (by rw [show k = g2 from hk]; exact HG2.out))))
                      have HbC := Lib.hid hbC
                      clear hbC hoC
                      go_wp2
                      refine bodyPost_ret (v := .tuple #[.agg o5V, .string ⟨#[]⟩, .string ⟨#[]⟩, .slice none 0 0, iv PE]) (results_rp rfl _ _ g2 o5V _ _ _ _ rfl HbC.out rfl rfl rfl rfl rfl) rfl ?_
                      exact HF.out
                · have hgt3 : (bs.length : Int) < (u : Int) + 4 + (dl : Int) := by omega
                  have hE := R4.out (.inr hgt3)
                  clear hD
                  go_wp2_with (first
                    | (refine store_arr rfl (.tmp 2) (.tmp 92) rfl rfl g2 o5V o5V rfl rfl rfl rfl HAr.out.r (five_one 0 0 0 0 0) ?_)
                    | fail)
                  intro wC hbC hoC
                  have HF := Lib.hid (HErr.out wC 11 hE (by decide) (HAr.out.only.then hoC (fun k hk => .inr (by rw [show k = g2 from hk]; exact HG2.out))))
                  have HbC := Lib.hid hbC
                  clear hbC hoC
                  go_wp2
                  refine bodyPost_ret (v := .tuple #[.agg o5V, .string ⟨#[]⟩, .string ⟨#[]⟩, .slice none 0 0, iv 11]) (results_rp rfl _ _ g2 o5V _ _ _ _ rfl HbC.out rfl rfl rfl rfl rfl) rfl ?_
                  exact HF.out
        · have hgt2 : (bs.length : Int) < 8 + (m : Int) + 4 + (l : Int) := by omega
          have hE := R2.out (.inr (by omega))
          clear hL hle
          go_wp2_with (first
            | (refine store_arr rfl (.tmp 2) (.tmp 48) rfl rfl g2 o5V o5V rfl rfl rfl rfl HA1.out.r (five_one 0 0 0 0 0) ?_)
            | fail)
          intro wC hbC hoC
          have HF := Lib.hid (HErr.out wC 11 hE (by decide) (HA1.out.only.then hoC (fun k hk => .inr (by rw [show k = g2 from hk]; exact HG2.out))))
          have HbC := Lib.hid hbC
          clear hbC hoC
          go_wp2
          refine bodyPost_ret (v := .tuple #[.agg o5V, .string ⟨#[]⟩, .string ⟨#[]⟩, .slice none 0 0, iv 11]) (results_rp rfl _ _ g2 o5V _ _ _ _ rfl HbC.out rfl rfl rfl rfl rfl) rfl ?_
          exact HF.out
    · have hgt : (bs.length : Int) < 8 + (m : Int) := by omega
      have hE := R1.out (.inr hgt)
      clear hM hlen
      go_wp2_with (first
        | (refine store_arr rfl (.tmp 2) (.tmp 31) rfl rfl g2 o5V o5V rfl rfl rfl rfl HA1.out.r (five_one 0 0 0 0 0) ?_)
        | fail)
      intro wC hbC hoC
      have HF := Lib.hid (HErr.out wC 11 hE (by decide) (HA1.out.only.then hoC (fun k hk => .inr (by rw [show k = g2 from hk]; exact HG2.out))))
      have HbC := Lib.hid hbC
      clear hbC hoC
      go_wp2
      refine bodyPost_ret (v := .tuple #[.agg o5V, .string ⟨#[]⟩, .string ⟨#[]⟩, .slice none 0 0, iv 11]) (results_rp rfl _ _ g2 o5V _ _ _ _ rfl HbC.out rfl rfl rfl rfl rfl) rfl ?_
      exact HF.out
end Go.Proofs.YtphpciglpnbblaaDoor
