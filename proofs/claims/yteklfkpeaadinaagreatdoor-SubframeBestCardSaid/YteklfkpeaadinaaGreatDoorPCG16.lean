/-
  The document's answer: Least.
-/
import Derived.Test.YteklfkpeaadinaaGreatDoorPCG15
import Derived.Test.YteklfkpeaadinaaGreatDoorPCG11
import Derived.Deep.AppendLies
namespace Go.Proofs.YteklfkpeaadinaaGreatDoor
open Go.RowKit

/-- one number more -/
theorem wpList_append_one {w : World} {ops : Array Oper} {rest : List Oper} {o : Oper} {a : Act} {Q : Exit → Act → World → Prop} (hg : o.guard = none) (s x : Operand)
    (hop : o.op = Op.call { callee := Callee.builtin Builtin.append, args := #[s, x], argTypes := #[22, 22] })
    (base : Nat) (v : Value) (n : Nat) (xs : List Value) (hs : a.eval s = v) (hown : w.ownsRow base 3 1 v n xs) (H : Nat) (y : Int) (hx : a.eval x = .slice (some ⟨H, 0, none⟩) 1 1) (hc : w.cell? ⟨H, 0, none⟩ = some (iv y)) (hn : n ≤ 100000000) (hb : base ≤ w.heap.size)
    (hK : ∀ g cap w', w'.ownsRow base 3 1 (.slice (some ⟨g, 0, none⟩) (n + 1) cap) (n + 1) (xs ++ [iv y]) → w.grownBy w' v.ownBlock → (v.ownBlock = some g ∨ g = w.heap.size) → wpList Tryz.prog ops Q rest (a.put o.dst (.slice (some ⟨g, 0, none⟩) (n + 1) cap)) w') :
    wpList Tryz.prog ops Q (o :: rest) a w := by
  obtain ⟨i0, hi, hz0, hz1, hz2⟩ := info_parts Tryz.info_int
  exact wpList_append_lies w hg s x 22 hop base 3 i0 (.int .i64 0) 1 8 Tryz.underlying22 hi hz0 hz1 hz2 rfl (by decide) v n xs hs hown ⟨H, 0, none⟩ 1 1 [iv y] hx rfl (fun j u hu => by
    obtain rfl : j = 0 := by
      have := (List.getElem?_eq_some_iff.1 hu).1
      simp at this
      omega
    rw [Addr.add_lit, hc]
    simpa using hu) (fun u hu => by simp at hu; subst hu; rfl) (by decide) (by unfold maxLen; omega) (by omega) hb _ rfl (fun g cap w' r1 r2 r3 _ => hK g cap w' r1 r2 r3)
/-- between two parts -/
structure LsI (V0 : World) (pb m o S s : Nat) (ns : List Nat) (k : Nat) (cs : List (Int × Int)) (v2 v3 : Value) (u : World) : Prop where
  ok : CsOk m S s ns (List.range k) cs
  box : Box u pb 54 #[iv m, iv o, v2, v3]
  r2 : u.ownsRow V0.heap.size 3 1 v2 cs.length (cs.map fun c => iv c.1)
  r3 : u.ownsRow V0.heap.size 3 1 v3 cs.length (cs.map fun c => iv c.2)
  ne : ∀ g, v2.ownBlock = some g → v3.ownBlock ≠ some g
  only : Only (fun k => k = pb) V0 u
theorem LsI.nix {V0 u u' : World} {pb m o S s : Nat} {ns : List Nat} {k : Nat} {cs : List (Int × Int)} {v2 v3 : Value} (h : LsI V0 pb m o S s ns k cs v2 v3 u) (ho : Only Nix u u') : LsI V0 pb m o S s ns k cs v2 v3 u' :=
  ⟨h.ok, h.box.only ho (fun e => e), owns_only h.r2 ho (fun _ _ e => e), owns_only h.r3 ho (fun _ _ e => e), h.ne, h.only.trans ho.nix⟩
def LsK (V0 : World) (pb m o S s P : Nat) (ns : List Nat) (s12 s13 s14 : Value) (u : World) : Prop :=
  ∃ (k : Nat) (cs : List (Int × Int)) (v2 v3 : Value), k ≤ P ∧ s14 = iv k ∧ s13 = iv (frm S s k : Nat) ∧ s12 = iv (6 + szZ m S s ns (List.range k) cs : Nat) ∧ LsI V0 pb m o S s ns k cs v2 v3 u
def bV (m : Nat) (ns : List Nat) : Option (Int × Int) → Int
  | none => -1
  | some d => (szP m d.1 d.2 ns : Int) - (4 + (m : Int))
def pV : Option (Int × Int) → Int
  | none => 0
  | some d => d.1
def mV : Option (Int × Int) → Int
  | none => 0
  | some d => d.2
/-- the best one of the first x -/
def xS (m : Nat) (ns : List Nat) (x : Nat) : Option (Int × Int) := if x ≤ 15 + 16 * m then fdl m ns x else chp m ns
structure LsX (u0 : World) (m : Nat) (ns : List Nat) (s16 s17 s18 s19 : Value) (u : World) : Prop where
  ex : ∃ x : Nat, x ≤ 16 + 16 * m ∧ s19 = iv x ∧ s16 = iv (bV m ns (xS m ns x)) ∧ s17 = iv (pV (xS m ns x)) ∧ s18 = iv (mV (xS m ns x)) ∧ Only Nix u0 u
theorem szP_ge (m : Nat) (p wd : Int) (ns : List Nat) : 4 + m ≤ szP m p wd ns := by
  unfold szP szR szK
  split <;> omega
theorem stepC_takeB {m : Nat} {ns : List Nat} {st : Option (Int × Int)} {c : Int × Int} {N : Nat} (hm : mayP c.1 c.2 ns = true) (hz : szP m c.1 c.2 ns = 4 + m + N) (h : bV m ns st < 0 ∨ (N : Int) < bV m ns st) : stepC m ns st c = some c := by
  unfold stepC
  rw [if_pos]
  refine ⟨hm, fun d hd => ?_⟩
  subst hd
  have := szP_ge m d.1 d.2 ns
  simp only [bV] at h
  omega
theorem stepC_keepB {m : Nat} {ns : List Nat} {st : Option (Int × Int)} {c : Int × Int} {N : Nat} (hz : szP m c.1 c.2 ns = 4 + m + N) (h : ¬ bV m ns st < 0) (h2 : ¬ (N : Int) < bV m ns st) : stepC m ns st c = st := by
  cases st with
  | none => exact absurd (by simp [bV]) h
  | some d =>
    unfold stepC
    rw [if_neg]
    rintro ⟨_, h3⟩
    have := h3 d rfl
    simp only [bV] at h h2
    omega
theorem bV_some {m : Nat} {ns : List Nat} {c : Int × Int} {N : Nat} (hz : szP m c.1 c.2 ns = 4 + m + N) : bV m ns (some c) = (N : Int) := by
  show ((szP m c.1 c.2 ns : Nat) : Int) - _ = _
  rw [hz]
  push_cast
  omega
theorem stepC_some {m : Nat} {ns : List Nat} {st : Option (Int × Int)} {c : Int × Int} (hm : mayP c.1 c.2 ns = true) : ∃ d, stepC m ns st c = some d := by
  unfold stepC
  split
  · exact ⟨c, rfl⟩
  · rename_i h
    cases st with
    | none => exact absurd ⟨hm, fun d hd => by cases hd⟩ h
    | some d => exact ⟨d, rfl⟩
abbrev lsW (w u : World) (m o : Nat) (v2 v3 : Value) : World := ((((u.setCell ⟨w.heap.size, 0, none⟩ (iv m)).setCell ⟨w.heap.size, 1, none⟩ (iv o)).setCell ⟨w.heap.size, 2, none⟩ v2).setCell ⟨w.heap.size, 3, none⟩ v3).drew
theorem ls_ret {w u : World} {m o : Nat} {v2 v3 : Value} (ho : Only Nix w u) (b : Box u w.heap.size 54 #[iv 0, iv 0, .slice none 0 0, .slice none 0 0]) : Box (lsW w u m o v2 v3) w.heap.size 54 #[iv m, iv o, v2, v3] ∧ Only Nix w (lsW w u m o v2 v3) := by
  refine ⟨?_, ?_⟩
  · have b1 : Box (u.setCell ⟨w.heap.size, 0, none⟩ (iv m)) w.heap.size 54 #[iv m, iv 0, .slice none 0 0, .slice none 0 0] := b.put 0 _
    have b2 : Box ((u.setCell ⟨w.heap.size, 0, none⟩ (iv m)).setCell ⟨w.heap.size, 1, none⟩ (iv o)) w.heap.size 54 #[iv m, iv o, .slice none 0 0, .slice none 0 0] := b1.put 1 _
    have b3 : Box (((u.setCell ⟨w.heap.size, 0, none⟩ (iv m)).setCell ⟨w.heap.size, 1, none⟩ (iv o)).setCell ⟨w.heap.size, 2, none⟩ v2) w.heap.size 54 #[iv m, iv o, v2, .slice none 0 0] := b2.put 2 _
    have b4 : Box ((((u.setCell ⟨w.heap.size, 0, none⟩ (iv m)).setCell ⟨w.heap.size, 1, none⟩ (iv o)).setCell ⟨w.heap.size, 2, none⟩ v2).setCell ⟨w.heap.size, 3, none⟩ v3) w.heap.size 54 #[iv m, iv o, v2, v3] := b3.put 3 _
    exact b4.only (Only.refl Nix _).drew (fun e => e)
  · exact ((((ho.setCell (p := ⟨w.heap.size, 0, none⟩) (.inr (Nat.le_refl _)) _).setCell (p := ⟨w.heap.size, 1, none⟩) (.inr (Nat.le_refl _)) _).setCell (p := ⟨w.heap.size, 2, none⟩) (.inr (Nat.le_refl _)) _).setCell (p := ⟨w.heap.size, 3, none⟩) (.inr (Nat.le_refl _)) _).drew
theorem owns_down {W : World} {a b n : Nat} {v : Value} {xs : List Value} (h : W.ownsRow b 3 1 v n xs) (hab : a ≤ b) : W.ownsRow a 3 1 v n xs := by
  refine ⟨h.1, ?_⟩
  rcases h.2 with e | ⟨g, cap, cur, e, hb, r⟩
  · exact .inl e
  · exact .inr ⟨g, cap, cur, e, Nat.le_trans hab hb, r⟩
def LsA (uk : World) (S s : Nat) (l : List Int) (k : Nat) (s13 s15 : Value) (u : World) : Prop :=
  ∃ i : Nat, i ≤ (pt S s l k).length ∧ s13 = iv (frm S s k + i : Nat) ∧ u.ownsRow uk.heap.size 3 1 s15 i (((pt S s l k).take i).map iv) ∧ Only Nix uk u
set_option maxRecDepth 100000 in
set_option maxHeartbeats 4000000 in
theorem leastRef_any {w : World} (m o s P S : Nat) (ad : Addr) (n c : Nat) (l : List Int) (hm : m ≤ 1) (ho : o ≤ 15) (hs : s ≤ 32) (hP : 2 ^ o = P) (hPS : P * S = l.length + s) (hS : s < S) (hx : ISrc w (.slice (some ad) n c) l) (hn : n ≤ 40) (hsm : ∀ x ∈ l, Sm x) :
    Calls Tryz.prog 31 #[iv m, iv o, iv s, .slice (some ad) n c] w fun e w' => ∃ (cs : List (Int × Int)) (v2 v3 : Value), e = .returned (.tuple #[iv (6 + szZ m S s (l.map fd) (List.range P) cs : Nat), planV m o v2 v3]) ∧ CsOk m S s (l.map fd) (List.range P) cs ∧ w'.ownsRow w.heap.size 3 1 v2 cs.length (cs.map fun c => iv c.1) ∧ w'.ownsRow w.heap.size 3 1 v3 cs.length (cs.map fun c => iv c.2) ∧ Only Nix w w' := by
  obtain rfl := hx.len
  have HX := Lib.hid hx
  have HS := Lib.hid hsm
  have hPi : (2 : Int) ^ o = (P : Int) := by rw [pow_cast, hP]
  have hPl : P ≤ 72 := by
    have := Nat.le_mul_of_pos_right P (show 0 < S by omega)
    omega
  have HP := Lib.hid (And.intro hP hPS)
  have hBS : (l.length + s) / P = S := by
    rw [← hPS]
    exact Nat.mul_div_cancel_left _ (by rw [← hP]; exact Nat.two_pow_pos o)
  have HBS := Lib.hid hBS
  have o2 := ((Only.refl Nix w).alloc (.cells #[iv 0, iv 0, .slice none 0 0, .slice none 0 0] 54)).alloc (.cells #[iv m, iv o, .slice none 0 0, .slice none 0 0] 54)
  have bP := Box.new (w.alloc (.cells #[iv 0, iv 0, .slice none 0 0, .slice none 0 0] 54)) 54 #[iv m, iv o, .slice none 0 0, .slice none 0 0]
  rw [World.size_alloc] at bP
  have bR := (Box.new w 54 #[iv 0, iv 0, .slice none 0 0, .slice none 0 0]).alloc (.cells #[iv m, iv o, .slice none 0 0, .slice none 0 0] 54)
  have hsz2 : ((w.alloc (.cells #[iv 0, iv 0, .slice none 0 0, .slice none 0 0] 54)).alloc (.cells #[iv m, iv o, .slice none 0 0, .slice none 0 0] 54)).heap.size = w.heap.size + 2 := by simp
  clear hx hsm hPS hBS hP
  go_enter Tryz.func31, Tryz.ntmps31
  go_wp2
  generalize (w.alloc (.cells #[iv 0, iv 0, .slice none 0 0, .slice none 0 0] 54)).alloc (.cells #[iv m, iv o, .slice none 0 0, .slice none 0 0] 54) = V0 at *
  have HO2 := Lib.hid o2
  have HbP := Lib.hid bP
  have HbR := Lib.hid bR
  clear o2 bP bR
  go_loopw [12, 13, 14] (fun s12 s13 s14 u => LsK V0 (w.heap.size + 1) m o S s P (l.map fd) s12 s13 s14 u) (fun _ _ s14 _ => P - (intOf s14).toNat)
  case atStart =>
    exact ⟨0, [], .slice none 0 0, .slice none 0 0, Nat.zero_le _, rfl, by rw [frm_zero]; rfl, rfl, ⟨rfl, HbP.out, World.ownsRow_nil _ _ _ _, World.ownsRow_nil _ _ _ _, fun g e => by simp [Value.ownBlock] at e, Only.refl _ _⟩⟩
  case round =>
    obtain ⟨k, cs, v2, v3, hk, rfl, rfl, rfl, hI⟩ := hrel
    generalize wr = uk at *
    by_cases hlt : k < P
    · have hlt2 : (k : Int) < (P : Int) := by omega
      have HI := Lib.hid hI
      have hosz := hI.only.size
      have hfs := frm_le S s (k + 1) P l.length (by omega) HP.out.2
      have hpl9 := pt_len S s P l k hS (by omega) HP.out.2
      have hst9 := (frm_step S s k hS).1
      have hcl : cs.length = k := by have := congrArg List.length hI.ok; simpa using this.symm
      have Hcl := Lib.hid hcl
      clear hI hcl
      generalize hZ : 6 + szZ m S s (l.map fd) (List.range k) cs = Z at *
      have HZ := Lib.hid hZ
      clear hZ
      go_wp2
      go_loopw [13, 15] (fun s13 s15 u => LsA uk S s l k s13 s15 u) (fun s13 _ _ => 300 - (intOf s13).toNat)
      case atStart => exact ⟨0, Nat.zero_le _, by simp, by simpa using World.ownsRow_nil _ _ _ _, Only.refl _ _⟩
      case round =>
        obtain ⟨i, hi, rfl, hrow, hou⟩ := hrel
        have hIu := HI.out.nix hou
        have b0 := hIu.box.cell 0
        have b1 := hIu.box.cell 1
        have b2 := hIu.box.cell 2
        have b3 := hIu.box.cell 3
        simp only [List.getElem?_toArray, List.getElem?_cons_zero, List.getElem?_cons_succ] at b0 b1 b2 b3
        have HR := Lib.hid hrow
        have HOu := Lib.hid hou
        have hus := hou.size
        obtain ⟨A5, c5, hv5⟩ := owns_slice hrow
        subst hv5
        clear hrow
        by_cases hlen : i < (pt S s l k).length
        · have hqN : frm S s k + i < l.length := by omega
          have hpo := part_of S s k (frm S s k + i) hS (by omega) (by omega)
          have hxe : (pt S s l k)[i]? = some (l[frm S s k + i]) := by rw [List.getElem?_eq_getElem hlen]; simp [pt]
          generalize hq : frm S s k + i = q at *
          have HQ := Lib.hid hq
          obtain ⟨ad', e9, hxl⟩ := HX.out.at_ hqN
          injection e9 with e9
          subst e9
          have oWu : Only Nix w wr := HO2.out.then (HI.out.only.trans hou.nix) (fun i e => .inr (by rw [e]; omega))
          have hxl2 := cell_keep oWu hxl
          generalize l[q] = x at hxl hxe hxl2
          have HXE := Lib.hid hxe
          have HPT := Lib.hid (partRef_any wr m o (l.length + s) s q v2 v3 P S ho HP.out.1 HBS.out (by omega) (by omega) hs (by omega))
          rw [hpo, Int.natCast_add l.length s] at HPT
          have hqd : decide ((q : Int) < (l.length : Int)) = true := by simp; omega
          clear hxl hxe hpo hou oWu hq
          go_wp2_with fail
          refine (HPT.out).mono ?_
          rintro e w9 ⟨rfl, o9⟩
          have hxl3 := cell_keep o9 hxl2
          have HR9 := Lib.hid (owns_only HR.out o9 (fun _ _ e => e))
          have HO9 := Lib.hid (HOu.out.trans o9)
          have hs9 := o9.size
          have Hlen := Lib.hid hlen
          clear o9 HPT hxl2 b0 b1 b2 b3 hIu hlen
          go_wp2_with (at_builtin; refine wpList_append_one rfl (.tmp 49) (.tmp 54) rfl uk.heap.size (.slice A5 i c5) i (((pt S s l k).take i).map iv) rfl ?ownM w9.heap.size x rfl ?cellM ?nM ?baseM ?restM)
          case ownM => exact HR9.out.alloc _
          case cellM => exact (Box.new w9 3 #[iv x]).cell 0
          case nM => omega
          case baseM => rw [World.size_alloc]; omega
          case restM =>
            intro g cap w10 h10 h11 _
            have HO10 := Lib.hid ((HO9.out.alloc (.cells #[iv x] 3)).grown h11 (fun q e => .inr (HR9.out.lt q e).1))
            have HR10 := Lib.hid h10
            clear h10 h11
            go_wp2
            go_roundw
            case rel => exact ⟨i + 1, Hlen.out, by rw [← HQ.out]; go_num, by rw [List.take_add_one, HXE.out, Option.toList_some, List.map_append, List.map_take]; exact HR10.out, HO10.out⟩
            case measure => simp [intOf]; omega
        · have hie : i = (pt S s l k).length := by omega
          have hfe : frm S s k + i = frm S s (k + 1) := by omega
          have hnx := part_next S s k hS
          rw [hfe]
          generalize hq : frm S s (k + 1) = q at *
          have HQ := Lib.hid hq
          have HPT := Lib.hid (partRef_any wr m o (l.length + s) s q v2 v3 P S ho HP.out.1 HBS.out (by omega) (by omega) hs (by omega))
          rw [hnx, Int.natCast_add l.length s] at HPT
          obtain ⟨K1, hK1⟩ : ∃ K1, K1 = k + 1 := ⟨_, rfl⟩
          rw [← hK1] at HPT
          have Hie := Lib.hid hie
          have Hpl := Lib.hid (And.intro hpl9 (And.intro hst9 hfe))
          have hi1 : 0 < i := by omega
          have hi40 : i ≤ 40 := by omega
          obtain ⟨g5, c6, e5, hg5⟩ := row_form HR.out hi1
          injection e5 with eA _ ec
          subst eA
          subst ec
          have hsm5 : ∀ x ∈ pt S s l k, Sm x := fun x hx => HS.out x (pt_in S s l k hx)
          have hM5 := isrc_row HR.out (by rw [hie, List.take_length]) (fun x hx => by have := hsm5 x hx; unfold Sm at this; omega) (by omega)
          have HS5 := Lib.hid hsm5
          have HM5 := Lib.hid hM5
          clear hsm5 hM5
          by_cases hqN : q < l.length
          · have hqd : decide ((q : Int) < (l.length : Int)) = true := by simp; omega
            have hkk : ((K1 : Int) == (k : Int)) = false := by simp; omega
            clear hq hfe hnx hlen hou hIu hpl9 hst9 hfs hie hK1
            go_wp2_with fail
            refine (HPT.out).mono ?_
            rintro e w9 ⟨rfl, o9⟩
            have HR9 := Lib.hid (owns_only HR.out o9 (fun _ _ e => e))
            have HO9 := Lib.hid (HOu.out.trans o9)
            have HM := Lib.hid (HM5.out.nix o9)
            have HUW := Lib.hid (HOu.out.trans o9)
            clear o9 HPT b0 b1 b2 b3 HM5
            go_wp2
            go_loopw [16, 17, 18, 19] (fun s16 s17 s18 s19 u => LsX w9 m ((pt S s l k).map fd) s16 s17 s18 s19 u) (fun _ _ _ s19 _ => 100 - (intOf s19).toNat)
            case atStart => exact ⟨⟨0, Nat.zero_le _, rfl, rfl, rfl, rfl, Only.refl _ _⟩⟩
            case round =>
              obtain ⟨x, hx, rfl, rfl, rfl, rfl, hou⟩ := hrel.ex
              have HOx := Lib.hid hou
              generalize hst : xS m ((pt S s l k).map fd) x = st at *
              have Hst := Lib.hid hst
              clear hst
              by_cases hlt : x ≤ 15 + 16 * m
              · have hxd : decide ((x : Int) ≤ 15 + 16 * (m : Int)) = true := by simp; omega
                have HMx := Lib.hid (HM.out.nix hou)
                clear hou
                by_cases hla : x = 15 + 16 * m
                · have hxe : ((x : Int) == 15 + 16 * (m : Int)) = true := by simp; omega
                  have HC := Lib.hid (costRef_raw (some ⟨g5, 0, none⟩) i c5 (pt S s l k) HMx.out (by omega) HS5.out)
                  obtain ⟨N, hN⟩ : ∃ N, N = 5 + mxW (pt S s l k) * i := ⟨_, rfl⟩
                  rw [← hN] at HC
                  have hN0 : decide (0 ≤ (N : Int)) = true := by simp
                  have HN := Lib.hid hN
                  clear hN
                  go_wp2_with fail
                  refine (HC.out).mono ?_
                  rintro e w8 ⟨rfl, o8⟩
                  have HO8 := Lib.hid (HOx.out.trans o8)
                  clear HC o8
                  have hz : szP m (-1) (mxW (pt S s l k) : Nat) ((pt S s l k).map fd) = 4 + m + N := by rw [sm_szR, HN.out, Hie.out]
                  have hxS : xS m ((pt S s l k).map fd) (x + 1) = stepC m ((pt S s l k).map fd) st (-1, (mxW (pt S s l k) : Nat)) := by
                    rw [← Hst.out]
                    unfold xS
                    rw [if_neg (by omega), if_pos (by omega), hla]
                    exact (ref_chp (by omega) HS5.out).symm
                  have hmy := sm_mayR (l := pt S s l k) (by omega) HS5.out
                  have HXs := Lib.hid hxS
                  have Hz := Lib.hid hz
                  have Hmy := Lib.hid hmy
                  clear hxS hz hmy
                  generalize hB : bV m ((pt S s l k).map fd) st = B at *
                  have HB := Lib.hid hB
                  clear hB
                  by_cases hb0 : B < 0
                  · have hbd : decide (B < 0) = true := by simpa using hb0
                    go_wp2
                    go_roundw
                    case rel =>
                      have hS := HXs.out.trans (stepC_takeB Hmy.out Hz.out (.inl (by rw [HB.out]; omega)))
                      exact ⟨⟨x + 1, by omega, by go_num, by rw [hS, bV_some Hz.out], by rw [hS]; rfl, by rw [hS]; rfl, HO8.out⟩⟩
                    case measure => simp [intOf]; omega
                  · have hbd : decide (B < 0) = false := by simpa using hb0
                    by_cases hb1 : (N : Int) < B
                    · have hbe : decide ((N : Int) < B) = true := by simpa using hb1
                      go_wp2
                      go_roundw
                      case rel =>
                        have hS := HXs.out.trans (stepC_takeB Hmy.out Hz.out (.inr (by rw [HB.out]; omega)))
                        exact ⟨⟨x + 1, by omega, by go_num, by rw [hS, bV_some Hz.out], by rw [hS]; rfl, by rw [hS]; rfl, HO8.out⟩⟩
                      case measure => simp [intOf]; omega
                    · have hbe : decide ((N : Int) < B) = false := by simpa using hb1
                      go_wp2
                      go_roundw
                      case rel =>
                        have hS := HXs.out.trans (stepC_keepB Hz.out (by rw [HB.out]; omega) (by rw [HB.out]; omega))
                        exact ⟨⟨x + 1, by omega, by go_num, by rw [hS, HB.out], by rw [hS], by rw [hS], HO8.out⟩⟩
                      case measure => simp [intOf]; omega
                · have hxe : ((x : Int) == 15 + 16 * (m : Int)) = false := by simp; omega
                  have HC := Lib.hid (costRef_coded (some ⟨g5, 0, none⟩) i c5 (pt S s l k) x (by omega) HMx.out (by omega) HS5.out)
                  obtain ⟨N, hN⟩ : ∃ N, N = cdS x (pt S s l k) := ⟨_, rfl⟩
                  rw [← hN] at HC
                  have hN0 : decide (0 ≤ (N : Int)) = true := by simp
                  have HN := Lib.hid hN
                  clear hN
                  go_wp2_with fail
                  refine (HC.out).mono ?_
                  rintro e w8 ⟨rfl, o8⟩
                  have HO8 := Lib.hid (HOx.out.trans o8)
                  clear HC o8
                  have hz : szP m (x : Int) 0 ((pt S s l k).map fd) = 4 + m + N := by rw [sm_szK, HN.out]
                  have hxS : xS m ((pt S s l k).map fd) (x + 1) = stepC m ((pt S s l k).map fd) st ((x : Int), 0) := by
                    rw [← Hst.out]
                    unfold xS
                    rw [if_pos (by omega), if_pos (by omega)]
                    exact fdl_succ _ _ _
                  have hmy := sm_may (l := pt S s l k) (by omega) HS5.out x
                  have HXs := Lib.hid hxS
                  have Hz := Lib.hid hz
                  have Hmy := Lib.hid hmy
                  clear hxS hz hmy
                  generalize hB : bV m ((pt S s l k).map fd) st = B at *
                  have HB := Lib.hid hB
                  clear hB
                  by_cases hb0 : B < 0
                  · have hbd : decide (B < 0) = true := by simpa using hb0
                    go_wp2
                    go_roundw
                    case rel =>
                      have hS := HXs.out.trans (stepC_takeB Hmy.out Hz.out (.inl (by rw [HB.out]; omega)))
                      exact ⟨⟨x + 1, by omega, by go_num, by rw [hS, bV_some Hz.out], by rw [hS]; rfl, by rw [hS]; rfl, HO8.out⟩⟩
                    case measure => simp [intOf]; omega
                  · have hbd : decide (B < 0) = false := by simpa using hb0
                    by_cases hb1 : (N : Int) < B
                    · have hbe : decide ((N : Int) < B) = true := by simpa using hb1
                      go_wp2
                      go_roundw
                      case rel =>
                        have hS := HXs.out.trans (stepC_takeB Hmy.out Hz.out (.inr (by rw [HB.out]; omega)))
                        exact ⟨⟨x + 1, by omega, by go_num, by rw [hS, bV_some Hz.out], by rw [hS]; rfl, by rw [hS]; rfl, HO8.out⟩⟩
                      case measure => simp [intOf]; omega
                    · have hbe : decide ((N : Int) < B) = false := by simpa using hb1
                      go_wp2
                      go_roundw
                      case rel =>
                        have hS := HXs.out.trans (stepC_keepB Hz.out (by rw [HB.out]; omega) (by rw [HB.out]; omega))
                        exact ⟨⟨x + 1, by omega, by go_num, by rw [hS, HB.out], by rw [hS], by rw [hS], HO8.out⟩⟩
                      case measure => simp [intOf]; omega
              · obtain ⟨X, hX⟩ : ∃ X, X = x := ⟨_, rfl⟩
                have hxd : decide ((x : Int) ≤ 15 + 16 * (m : Int)) = false := by simp; omega
                have hch : chp m ((pt S s l k).map fd) = st := by
                  rw [← Hst.out]
                  unfold xS
                  rw [if_neg hlt]
                obtain ⟨d, hd⟩ : ∃ d, st = some d := by
                  rw [← hch, ← ref_chp (by omega) HS5.out]
                  exact stepC_some (sm_mayR (by omega) HS5.out)
                subst hd
                obtain ⟨B, hB⟩ : ∃ B, szP m d.1 d.2 ((pt S s l k).map fd) = 4 + m + B := ⟨_, (Nat.add_sub_cancel' (szP_ge m d.1 d.2 _)).symm⟩
                have hbV := bV_some hB
                have hB0 : decide ((B : Int) < 0) = false := by simp
                rw [hbV, show pV (some d) = d.1 from rfl, show mV (some d) = d.2 from rfl]
                have HIx := Lib.hid (HI.out.nix (HUW.out.trans hou))
                have b0 := HIx.out.box.cell 0
                have b1 := HIx.out.box.cell 1
                have b2 := HIx.out.box.cell 2
                have b3 := HIx.out.box.cell 3
                simp only [List.getElem?_toArray, List.getElem?_cons_zero, List.getElem?_cons_succ] at b0 b1 b2 b3
                have Hch := Lib.hid hch
                have HB := Lib.hid hB
                have hsx := HIx.out.only.size
                have hcl9 : cs.length ≤ 72 := by have := Hcl.out; omega
                have HR2 := Lib.hid HIx.out.r2
                have HR3 := Lib.hid HIx.out.r3
                have HNE := Lib.hid HIx.out.ne
                have HBX := Lib.hid HIx.out.box
                have HOX := Lib.hid HIx.out.only
                have HOK := Lib.hid HIx.out.ok
                clear hch hbV hB hrel hou HM
                go_wp2_with (at_builtin; refine wpList_append_one rfl (.tmp 95) (.tmp 97) rfl V0.heap.size v2 cs.length (cs.map fun c => iv c.1) rfl ?ownA wr.heap.size d.1 rfl ?cellA ?nA ?baseA ?restA)
                case ownA => exact HR2.out.alloc _
                case cellA => exact (Box.new wr 3 #[iv d.1]).cell 0
                case nA => omega
                case baseA => rw [World.size_alloc]; omega
                case restA =>
                  intro gA cA U3 hA1 hA2 hA3
                  have nvP : v2.ownBlock ≠ some (w.heap.size + 1) := fun e => by have := (HR2.out.lt _ e).1; omega
                  have bP3 := (HBX.out.alloc (.cells #[iv d.1] 3)).grown hA2 nvP
                  have s33 := (HR3.out.alloc (.cells #[iv d.1] 3)).kept hA2 (by
                    cases hv : v3.ownBlock with
                    | none => exact .inl rfl
                    | some g => exact .inr (fun e => HNE.out g e.symm hv))
                  have oF4 := ((HOX.out.alloc (.cells #[iv d.1] 3)).grown hA2 (fun k e => .inr (HR2.out.lt k e).1)).setCell (p := ⟨w.heap.size + 1, 2, none⟩) (.inl rfl) (.slice (some ⟨gA, 0, none⟩) (cs.length + 1) cA)
                  have oP4 : Only (fun k => k = w.heap.size + 1) U3 (U3.setCell ⟨w.heap.size + 1, 2, none⟩ (.slice (some ⟨gA, 0, none⟩) (cs.length + 1) cA)) := (Only.refl (fun k => k = w.heap.size + 1) U3).setCell (p := ⟨w.heap.size + 1, 2, none⟩) (.inl rfl) _
                  have bP4 : Box (U3.setCell ⟨w.heap.size + 1, 2, none⟩ (.slice (some ⟨gA, 0, none⟩) (cs.length + 1) cA)) (w.heap.size + 1) 54 #[iv m, iv o, .slice (some ⟨gA, 0, none⟩) (cs.length + 1) cA, v3] := bP3.put 2 (.slice (some ⟨gA, 0, none⟩) (cs.length + 1) cA)
                  have hgA0 := (hA1.lt gA rfl).1
                  have hgA1 := (hA1.lt gA rfl).2
                  have rA4 := owns_only hA1 oP4 (fun g e => by simp [Value.ownBlock] at e; omega)
                  have s34 := owns_only s33 oP4 (fun g e => by have := (HR3.out.lt g e).1; omega)
                  have hgA3 : v3.ownBlock ≠ some gA := fun e => by
                    rcases hA3 with h | h
                    · exact HNE.out gA h e
                    · have := (HR3.out.lt gA e).2; omega
                  have hU3s := hA2.size
                  rw [World.size_alloc] at hU3s
                  have c2' := bP3.cell 2
                  have c3' := bP4.cell 3
                  have fz := bP3.frozen 2
                  simp only [List.getElem?_toArray, List.getElem?_cons_zero, List.getElem?_cons_succ] at c2' c3'
                  have HF4 := Lib.hid (And.intro oF4 (And.intro bP4 (And.intro rA4 s34)))
                  have hU4s := oP4.size
                  clear bP3 s33 oF4 oP4 bP4 rA4 s34 b0 b1 b2 b3 hA1 hA2
                  obtain ⟨U4, hU4⟩ : ∃ U4, U3.setCell ⟨w.heap.size + 1, 2, none⟩ (.slice (some ⟨gA, 0, none⟩) (cs.length + 1) cA) = U4 := ⟨_, rfl⟩
                  rw [hU4] at HF4 c3' hU4s
                  go_wp2_with (at_builtin; refine wpList_append_one rfl (.tmp 101) (.tmp 103) rfl V0.heap.size v3 cs.length (cs.map fun c => iv c.2) rfl ?ownB U4.heap.size d.2 rfl ?cellB ?nB ?baseB ?restB)
                  case ownB => exact HF4.out.2.2.2.alloc _
                  case cellB => exact (Box.new U4 3 #[iv d.2]).cell 0
                  case nB => omega
                  case baseB => rw [World.size_alloc]; omega
                  case restB =>
                    intro gB cB U5 hB1 hB2 hB3
                    have nwP : v3.ownBlock ≠ some (w.heap.size + 1) := fun e => by have := (HR3.out.lt _ e).1; omega
                    have bP5 := (HF4.out.2.1.alloc (.cells #[iv d.2] 3)).grown hB2 nwP
                    have rA5 := (HF4.out.2.2.1.alloc (.cells #[iv d.2] 3)).kept hB2 (.inr (fun e => hgA3 e.symm))
                    have hgB0 := (hB1.lt gB rfl).1
                    have hgB1 := (hB1.lt gB rfl).2
                    have hAB : gA ≠ gB := fun e => by
                      rcases hB3 with h | h
                      · rw [← e] at h; exact hgA3 h
                      · omega
                    have hU5s := hB2.size
                    rw [World.size_alloc] at hU5s
                    have oP6 : Only (fun k => k = w.heap.size + 1) U5 (U5.setCell ⟨w.heap.size + 1, 3, none⟩ (.slice (some ⟨gB, 0, none⟩) (cs.length + 1) cB)) := (Only.refl (fun k => k = w.heap.size + 1) U5).setCell (p := ⟨w.heap.size + 1, 3, none⟩) (.inl rfl) _
                    have oF5 : Only (fun k => k = w.heap.size + 1) V0 U5 := (HF4.out.1.alloc (.cells #[iv d.2] 3)).grown hB2 (fun k e => .inr (HR3.out.lt k e).1)
                    have oF6 : Only (fun k => k = w.heap.size + 1) V0 (U5.setCell ⟨w.heap.size + 1, 3, none⟩ (.slice (some ⟨gB, 0, none⟩) (cs.length + 1) cB)) := oF5.setCell (p := ⟨w.heap.size + 1, 3, none⟩) (.inl rfl) _
                    have bP6 : Box (U5.setCell ⟨w.heap.size + 1, 3, none⟩ (.slice (some ⟨gB, 0, none⟩) (cs.length + 1) cB)) (w.heap.size + 1) 54 #[iv m, iv o, .slice (some ⟨gA, 0, none⟩) (cs.length + 1) cA, .slice (some ⟨gB, 0, none⟩) (cs.length + 1) cB] := bP5.put 3 _
                    have rA6 := owns_only rA5 oP6 (fun g e => by simp [Value.ownBlock] at e; omega)
                    have rB6 := owns_only hB1 oP6 (fun g e => by simp [Value.ownBlock] at e; omega)
                    have q3 := bP5.cell 3
                    have fq := bP5.frozen 3
                    simp only [List.getElem?_toArray, List.getElem?_cons_zero, List.getElem?_cons_succ] at q3
                    have HF6 := Lib.hid (And.intro oF6 (And.intro bP6 (And.intro rA6 rB6)))
                    have HAB := Lib.hid hAB
                    clear bP5 rA5 oP6 oF5 oF6 bP6 rA6 rB6 hB1 hB2 c3' hAB
                    obtain ⟨U6, hU6⟩ : ∃ U6, U5.setCell ⟨w.heap.size + 1, 3, none⟩ (.slice (some ⟨gB, 0, none⟩) (cs.length + 1) cB) = U6 := ⟨_, rfl⟩
                    rw [hU6] at HF6
                    have hZb : Z + 4 + m + B ≤ 1000000000000000 := by
                      have hlt9 : ∀ n ∈ l.map fd, n < 4294967296 := fun n hn => by
                        obtain ⟨y, hy, rfl⟩ := List.mem_map.1 hn
                        have := (HS.out y hy).fd
                        omega
                      have b1 := szZ_bound (P := P) hm hS (by rw [List.length_map]; exact HP.out.2) hlt9 (List.range k) cs (fun j hj => by have := List.mem_range.1 hj; omega) (fun c hc => (cs_fit HOK.out c hc).1)
                      rw [List.length_range] at b1
                      have b3 := Nat.mul_le_mul_right S (show k ≤ P by omega)
                      rw [HP.out.2] at b3
                      have b2 := szP_bound m d.1 d.2 ((pt S s l k).map fd) hm (chp_isP Hch.out) (by rw [List.length_map]; omega) (fun n hn => by
                        obtain ⟨y, hy, rfl⟩ := List.mem_map.1 hn
                        have := (HS5.out y hy).fd
                        omega)
                      rw [List.length_map] at b2
                      have := HZ.out
                      have := HB.out
                      have := Hie.out
                      omega
                    go_wp2
                    go_roundw
                    case rel =>
                      have hcs : CsOk m S s (l.map fd) (List.range (k + 1)) (cs ++ [d]) := by
                        unfold CsOk
                        rw [List.range_succ, List.map_append, List.map_append, HOK.out]
                        simp [pt_map, Hch.out]
                      have hZn : 6 + szZ m S s (l.map fd) (List.range (k + 1)) (cs ++ [d]) = Z + 4 + m + B := by
                        rw [List.range_succ, szZ_snoc m S s _ _ cs k d (by rw [List.length_range]; exact Hcl.out.symm), pt_map, HB.out, ← HZ.out]
                        omega
                      have h2 := HF6.out.2.2.1
                      have h3 := HF6.out.2.2.2
                      exact ⟨k + 1, cs ++ [d], .slice (some ⟨gA, 0, none⟩) (cs.length + 1) cA, .slice (some ⟨gB, 0, none⟩) (cs.length + 1) cB, by omega, by go_num, by rw [HQ.out], by rw [hZn]; go_num, ⟨hcs, HF6.out.2.1, by rw [List.length_append, List.map_append]; first | exact h2 | (rw [hsz2]; exact h2), by rw [List.length_append, List.map_append]; first | exact h3 | (rw [hsz2]; exact h3), fun g e e2 => by simp [Value.ownBlock] at e e2; exact HAB.out (by omega), HF6.out.1⟩⟩
                    case measure => simp [intOf]; omega
          · have hqd : decide ((q : Int) < (l.length : Int)) = false := by simp; omega
            clear hq hfe hnx hlen hou hIu HPT hpl9 hst9 hfs hie
            go_wp2
            have HM := Lib.hid (HM5.out)
            have HUW := Lib.hid (HOu.out)
            clear HM5
            go_loopw [16, 17, 18, 19] (fun s16 s17 s18 s19 u => LsX wr m ((pt S s l k).map fd) s16 s17 s18 s19 u) (fun _ _ _ s19 _ => 100 - (intOf s19).toNat)
            case atStart => exact ⟨⟨0, Nat.zero_le _, rfl, rfl, rfl, rfl, Only.refl _ _⟩⟩
            case round =>
              obtain ⟨x, hx, rfl, rfl, rfl, rfl, hou⟩ := hrel.ex
              have HOx := Lib.hid hou
              generalize hst : xS m ((pt S s l k).map fd) x = st at *
              have Hst := Lib.hid hst
              clear hst
              by_cases hlt : x ≤ 15 + 16 * m
              · have hxd : decide ((x : Int) ≤ 15 + 16 * (m : Int)) = true := by simp; omega
                have HMx := Lib.hid (HM.out.nix hou)
                clear hou
                by_cases hla : x = 15 + 16 * m
                · have hxe : ((x : Int) == 15 + 16 * (m : Int)) = true := by simp; omega
                  have HC := Lib.hid (costRef_raw (some ⟨g5, 0, none⟩) i c5 (pt S s l k) HMx.out (by omega) HS5.out)
                  obtain ⟨N, hN⟩ : ∃ N, N = 5 + mxW (pt S s l k) * i := ⟨_, rfl⟩
                  rw [← hN] at HC
                  have hN0 : decide (0 ≤ (N : Int)) = true := by simp
                  have HN := Lib.hid hN
                  clear hN
                  go_wp2_with fail
                  refine (HC.out).mono ?_
                  rintro e w8 ⟨rfl, o8⟩
                  have HO8 := Lib.hid (HOx.out.trans o8)
                  clear HC o8
                  have hz : szP m (-1) (mxW (pt S s l k) : Nat) ((pt S s l k).map fd) = 4 + m + N := by rw [sm_szR, HN.out, Hie.out]
                  have hxS : xS m ((pt S s l k).map fd) (x + 1) = stepC m ((pt S s l k).map fd) st (-1, (mxW (pt S s l k) : Nat)) := by
                    rw [← Hst.out]
                    unfold xS
                    rw [if_neg (by omega), if_pos (by omega), hla]
                    exact (ref_chp (by omega) HS5.out).symm
                  have hmy := sm_mayR (l := pt S s l k) (by omega) HS5.out
                  have HXs := Lib.hid hxS
                  have Hz := Lib.hid hz
                  have Hmy := Lib.hid hmy
                  clear hxS hz hmy
                  generalize hB : bV m ((pt S s l k).map fd) st = B at *
                  have HB := Lib.hid hB
                  clear hB
                  by_cases hb0 : B < 0
                  · have hbd : decide (B < 0) = true := by simpa using hb0
                    go_wp2
                    go_roundw
                    case rel =>
                      have hS := HXs.out.trans (stepC_takeB Hmy.out Hz.out (.inl (by rw [HB.out]; omega)))
                      exact ⟨⟨x + 1, by omega, by go_num, by rw [hS, bV_some Hz.out], by rw [hS]; rfl, by rw [hS]; rfl, HO8.out⟩⟩
                    case measure => simp [intOf]; omega
                  · have hbd : decide (B < 0) = false := by simpa using hb0
                    by_cases hb1 : (N : Int) < B
                    · have hbe : decide ((N : Int) < B) = true := by simpa using hb1
                      go_wp2
                      go_roundw
                      case rel =>
                        have hS := HXs.out.trans (stepC_takeB Hmy.out Hz.out (.inr (by rw [HB.out]; omega)))
                        exact ⟨⟨x + 1, by omega, by go_num, by rw [hS, bV_some Hz.out], by rw [hS]; rfl, by rw [hS]; rfl, HO8.out⟩⟩
                      case measure => simp [intOf]; omega
                    · have hbe : decide ((N : Int) < B) = false := by simpa using hb1
                      go_wp2
                      go_roundw
                      case rel =>
                        have hS := HXs.out.trans (stepC_keepB Hz.out (by rw [HB.out]; omega) (by rw [HB.out]; omega))
                        exact ⟨⟨x + 1, by omega, by go_num, by rw [hS, HB.out], by rw [hS], by rw [hS], HO8.out⟩⟩
                      case measure => simp [intOf]; omega
                · have hxe : ((x : Int) == 15 + 16 * (m : Int)) = false := by simp; omega
                  have HC := Lib.hid (costRef_coded (some ⟨g5, 0, none⟩) i c5 (pt S s l k) x (by omega) HMx.out (by omega) HS5.out)
                  obtain ⟨N, hN⟩ : ∃ N, N = cdS x (pt S s l k) := ⟨_, rfl⟩
                  rw [← hN] at HC
                  have hN0 : decide (0 ≤ (N : Int)) = true := by simp
                  have HN := Lib.hid hN
                  clear hN
                  go_wp2_with fail
                  refine (HC.out).mono ?_
                  rintro e w8 ⟨rfl, o8⟩
                  have HO8 := Lib.hid (HOx.out.trans o8)
                  clear HC o8
                  have hz : szP m (x : Int) 0 ((pt S s l k).map fd) = 4 + m + N := by rw [sm_szK, HN.out]
                  have hxS : xS m ((pt S s l k).map fd) (x + 1) = stepC m ((pt S s l k).map fd) st ((x : Int), 0) := by
                    rw [← Hst.out]
                    unfold xS
                    rw [if_pos (by omega), if_pos (by omega)]
                    exact fdl_succ _ _ _
                  have hmy := sm_may (l := pt S s l k) (by omega) HS5.out x
                  have HXs := Lib.hid hxS
                  have Hz := Lib.hid hz
                  have Hmy := Lib.hid hmy
                  clear hxS hz hmy
                  generalize hB : bV m ((pt S s l k).map fd) st = B at *
                  have HB := Lib.hid hB
                  clear hB
                  by_cases hb0 : B < 0
                  · have hbd : decide (B < 0) = true := by simpa using hb0
                    go_wp2
                    go_roundw
                    case rel =>
                      have hS := HXs.out.trans (stepC_takeB Hmy.out Hz.out (.inl (by rw [HB.out]; omega)))
                      exact ⟨⟨x + 1, by omega, by go_num, by rw [hS, bV_some Hz.out], by rw [hS]; rfl, by rw [hS]; rfl, HO8.out⟩⟩
                    case measure => simp [intOf]; omega
                  · have hbd : decide (B < 0) = false := by simpa using hb0
                    by_cases hb1 : (N : Int) < B
                    · have hbe : decide ((N : Int) < B) = true := by simpa using hb1
                      go_wp2
                      go_roundw
                      case rel =>
                        have hS := HXs.out.trans (stepC_takeB Hmy.out Hz.out (.inr (by rw [HB.out]; omega)))
                        exact ⟨⟨x + 1, by omega, by go_num, by rw [hS, bV_some Hz.out], by rw [hS]; rfl, by rw [hS]; rfl, HO8.out⟩⟩
                      case measure => simp [intOf]; omega
                    · have hbe : decide ((N : Int) < B) = false := by simpa using hb1
                      go_wp2
                      go_roundw
                      case rel =>
                        have hS := HXs.out.trans (stepC_keepB Hz.out (by rw [HB.out]; omega) (by rw [HB.out]; omega))
                        exact ⟨⟨x + 1, by omega, by go_num, by rw [hS, HB.out], by rw [hS], by rw [hS], HO8.out⟩⟩
                      case measure => simp [intOf]; omega
              · obtain ⟨X, hX⟩ : ∃ X, X = x := ⟨_, rfl⟩
                have hxd : decide ((x : Int) ≤ 15 + 16 * (m : Int)) = false := by simp; omega
                have hch : chp m ((pt S s l k).map fd) = st := by
                  rw [← Hst.out]
                  unfold xS
                  rw [if_neg hlt]
                obtain ⟨d, hd⟩ : ∃ d, st = some d := by
                  rw [← hch, ← ref_chp (by omega) HS5.out]
                  exact stepC_some (sm_mayR (by omega) HS5.out)
                subst hd
                obtain ⟨B, hB⟩ : ∃ B, szP m d.1 d.2 ((pt S s l k).map fd) = 4 + m + B := ⟨_, (Nat.add_sub_cancel' (szP_ge m d.1 d.2 _)).symm⟩
                have hbV := bV_some hB
                have hB0 : decide ((B : Int) < 0) = false := by simp
                rw [hbV, show pV (some d) = d.1 from rfl, show mV (some d) = d.2 from rfl]
                have HIx := Lib.hid (HI.out.nix (HUW.out.trans hou))
                have b0 := HIx.out.box.cell 0
                have b1 := HIx.out.box.cell 1
                have b2 := HIx.out.box.cell 2
                have b3 := HIx.out.box.cell 3
                simp only [List.getElem?_toArray, List.getElem?_cons_zero, List.getElem?_cons_succ] at b0 b1 b2 b3
                have Hch := Lib.hid hch
                have HB := Lib.hid hB
                have hsx := HIx.out.only.size
                have hcl9 : cs.length ≤ 72 := by have := Hcl.out; omega
                have HR2 := Lib.hid HIx.out.r2
                have HR3 := Lib.hid HIx.out.r3
                have HNE := Lib.hid HIx.out.ne
                have HBX := Lib.hid HIx.out.box
                have HOX := Lib.hid HIx.out.only
                have HOK := Lib.hid HIx.out.ok
                clear hch hbV hB hrel hou HM
                go_wp2_with (at_builtin; refine wpList_append_one rfl (.tmp 95) (.tmp 97) rfl V0.heap.size v2 cs.length (cs.map fun c => iv c.1) rfl ?ownA wr.heap.size d.1 rfl ?cellA ?nA ?baseA ?restA)
                case ownA => exact HR2.out.alloc _
                case cellA => exact (Box.new wr 3 #[iv d.1]).cell 0
                case nA => omega
                case baseA => rw [World.size_alloc]; omega
                case restA =>
                  intro gA cA U3 hA1 hA2 hA3
                  have nvP : v2.ownBlock ≠ some (w.heap.size + 1) := fun e => by have := (HR2.out.lt _ e).1; omega
                  have bP3 := (HBX.out.alloc (.cells #[iv d.1] 3)).grown hA2 nvP
                  have s33 := (HR3.out.alloc (.cells #[iv d.1] 3)).kept hA2 (by
                    cases hv : v3.ownBlock with
                    | none => exact .inl rfl
                    | some g => exact .inr (fun e => HNE.out g e.symm hv))
                  have oF4 := ((HOX.out.alloc (.cells #[iv d.1] 3)).grown hA2 (fun k e => .inr (HR2.out.lt k e).1)).setCell (p := ⟨w.heap.size + 1, 2, none⟩) (.inl rfl) (.slice (some ⟨gA, 0, none⟩) (cs.length + 1) cA)
                  have oP4 : Only (fun k => k = w.heap.size + 1) U3 (U3.setCell ⟨w.heap.size + 1, 2, none⟩ (.slice (some ⟨gA, 0, none⟩) (cs.length + 1) cA)) := (Only.refl (fun k => k = w.heap.size + 1) U3).setCell (p := ⟨w.heap.size + 1, 2, none⟩) (.inl rfl) _
                  have bP4 : Box (U3.setCell ⟨w.heap.size + 1, 2, none⟩ (.slice (some ⟨gA, 0, none⟩) (cs.length + 1) cA)) (w.heap.size + 1) 54 #[iv m, iv o, .slice (some ⟨gA, 0, none⟩) (cs.length + 1) cA, v3] := bP3.put 2 (.slice (some ⟨gA, 0, none⟩) (cs.length + 1) cA)
                  have hgA0 := (hA1.lt gA rfl).1
                  have hgA1 := (hA1.lt gA rfl).2
                  have rA4 := owns_only hA1 oP4 (fun g e => by simp [Value.ownBlock] at e; omega)
                  have s34 := owns_only s33 oP4 (fun g e => by have := (HR3.out.lt g e).1; omega)
                  have hgA3 : v3.ownBlock ≠ some gA := fun e => by
                    rcases hA3 with h | h
                    · exact HNE.out gA h e
                    · have := (HR3.out.lt gA e).2; omega
                  have hU3s := hA2.size
                  rw [World.size_alloc] at hU3s
                  have c2' := bP3.cell 2
                  have c3' := bP4.cell 3
                  have fz := bP3.frozen 2
                  simp only [List.getElem?_toArray, List.getElem?_cons_zero, List.getElem?_cons_succ] at c2' c3'
                  have HF4 := Lib.hid (And.intro oF4 (And.intro bP4 (And.intro rA4 s34)))
                  have hU4s := oP4.size
                  clear bP3 s33 oF4 oP4 bP4 rA4 s34 b0 b1 b2 b3 hA1 hA2
                  obtain ⟨U4, hU4⟩ : ∃ U4, U3.setCell ⟨w.heap.size + 1, 2, none⟩ (.slice (some ⟨gA, 0, none⟩) (cs.length + 1) cA) = U4 := ⟨_, rfl⟩
                  rw [hU4] at HF4 c3' hU4s
                  go_wp2_with (at_builtin; refine wpList_append_one rfl (.tmp 101) (.tmp 103) rfl V0.heap.size v3 cs.length (cs.map fun c => iv c.2) rfl ?ownB U4.heap.size d.2 rfl ?cellB ?nB ?baseB ?restB)
                  case ownB => exact HF4.out.2.2.2.alloc _
                  case cellB => exact (Box.new U4 3 #[iv d.2]).cell 0
                  case nB => omega
                  case baseB => rw [World.size_alloc]; omega
                  case restB =>
                    intro gB cB U5 hB1 hB2 hB3
                    have nwP : v3.ownBlock ≠ some (w.heap.size + 1) := fun e => by have := (HR3.out.lt _ e).1; omega
                    have bP5 := (HF4.out.2.1.alloc (.cells #[iv d.2] 3)).grown hB2 nwP
                    have rA5 := (HF4.out.2.2.1.alloc (.cells #[iv d.2] 3)).kept hB2 (.inr (fun e => hgA3 e.symm))
                    have hgB0 := (hB1.lt gB rfl).1
                    have hgB1 := (hB1.lt gB rfl).2
                    have hAB : gA ≠ gB := fun e => by
                      rcases hB3 with h | h
                      · rw [← e] at h; exact hgA3 h
                      · omega
                    have hU5s := hB2.size
                    rw [World.size_alloc] at hU5s
                    have oP6 : Only (fun k => k = w.heap.size + 1) U5 (U5.setCell ⟨w.heap.size + 1, 3, none⟩ (.slice (some ⟨gB, 0, none⟩) (cs.length + 1) cB)) := (Only.refl (fun k => k = w.heap.size + 1) U5).setCell (p := ⟨w.heap.size + 1, 3, none⟩) (.inl rfl) _
                    have oF5 : Only (fun k => k = w.heap.size + 1) V0 U5 := (HF4.out.1.alloc (.cells #[iv d.2] 3)).grown hB2 (fun k e => .inr (HR3.out.lt k e).1)
                    have oF6 : Only (fun k => k = w.heap.size + 1) V0 (U5.setCell ⟨w.heap.size + 1, 3, none⟩ (.slice (some ⟨gB, 0, none⟩) (cs.length + 1) cB)) := oF5.setCell (p := ⟨w.heap.size + 1, 3, none⟩) (.inl rfl) _
                    have bP6 : Box (U5.setCell ⟨w.heap.size + 1, 3, none⟩ (.slice (some ⟨gB, 0, none⟩) (cs.length + 1) cB)) (w.heap.size + 1) 54 #[iv m, iv o, .slice (some ⟨gA, 0, none⟩) (cs.length + 1) cA, .slice (some ⟨gB, 0, none⟩) (cs.length + 1) cB] := bP5.put 3 _
                    have rA6 := owns_only rA5 oP6 (fun g e => by simp [Value.ownBlock] at e; omega)
                    have rB6 := owns_only hB1 oP6 (fun g e => by simp [Value.ownBlock] at e; omega)
                    have q3 := bP5.cell 3
                    have fq := bP5.frozen 3
                    simp only [List.getElem?_toArray, List.getElem?_cons_zero, List.getElem?_cons_succ] at q3
                    have HF6 := Lib.hid (And.intro oF6 (And.intro bP6 (And.intro rA6 rB6)))
                    have HAB := Lib.hid hAB
                    clear bP5 rA5 oP6 oF5 oF6 bP6 rA6 rB6 hB1 hB2 c3' hAB
                    obtain ⟨U6, hU6⟩ : ∃ U6, U5.setCell ⟨w.heap.size + 1, 3, none⟩ (.slice (some ⟨gB, 0, none⟩) (cs.length + 1) cB) = U6 := ⟨_, rfl⟩
                    rw [hU6] at HF6
                    have hZb : Z + 4 + m + B ≤ 1000000000000000 := by
                      have hlt9 : ∀ n ∈ l.map fd, n < 4294967296 := fun n hn => by
                        obtain ⟨y, hy, rfl⟩ := List.mem_map.1 hn
                        have := (HS.out y hy).fd
                        omega
                      have b1 := szZ_bound (P := P) hm hS (by rw [List.length_map]; exact HP.out.2) hlt9 (List.range k) cs (fun j hj => by have := List.mem_range.1 hj; omega) (fun c hc => (cs_fit HOK.out c hc).1)
                      rw [List.length_range] at b1
                      have b3 := Nat.mul_le_mul_right S (show k ≤ P by omega)
                      rw [HP.out.2] at b3
                      have b2 := szP_bound m d.1 d.2 ((pt S s l k).map fd) hm (chp_isP Hch.out) (by rw [List.length_map]; omega) (fun n hn => by
                        obtain ⟨y, hy, rfl⟩ := List.mem_map.1 hn
                        have := (HS5.out y hy).fd
                        omega)
                      rw [List.length_map] at b2
                      have := HZ.out
                      have := HB.out
                      have := Hie.out
                      omega
                    go_wp2
                    go_roundw
                    case rel =>
                      have hcs : CsOk m S s (l.map fd) (List.range (k + 1)) (cs ++ [d]) := by
                        unfold CsOk
                        rw [List.range_succ, List.map_append, List.map_append, HOK.out]
                        simp [pt_map, Hch.out]
                      have hZn : 6 + szZ m S s (l.map fd) (List.range (k + 1)) (cs ++ [d]) = Z + 4 + m + B := by
                        rw [List.range_succ, szZ_snoc m S s _ _ cs k d (by rw [List.length_range]; exact Hcl.out.symm), pt_map, HB.out, ← HZ.out]
                        omega
                      have h2 := HF6.out.2.2.1
                      have h3 := HF6.out.2.2.2
                      exact ⟨k + 1, cs ++ [d], .slice (some ⟨gA, 0, none⟩) (cs.length + 1) cA, .slice (some ⟨gB, 0, none⟩) (cs.length + 1) cB, by omega, by go_num, by rw [HQ.out], by rw [hZn]; go_num, ⟨hcs, HF6.out.2.1, by rw [List.length_append, List.map_append]; first | exact h2 | (rw [hsz2]; exact h2), by rw [List.length_append, List.map_append]; first | exact h3 | (rw [hsz2]; exact h3), fun g e e2 => by simp [Value.ownBlock] at e e2; exact HAB.out (by omega), HF6.out.1⟩⟩
                    case measure => simp [intOf]; omega
    · obtain rfl : k = P := by omega
      have hkd : decide ((k : Int) < (k : Int)) = false := by simp
      obtain ⟨A2, c2, e2⟩ := owns_slice hI.r2
      obtain ⟨A3, c3, e3⟩ := owns_slice hI.r3
      subst e2 e3
      have HI := Lib.hid hI
      have b0 := hI.box.cell 0
      have b1 := hI.box.cell 1
      have b2 := hI.box.cell 2
      have b3 := hI.box.cell 3
      simp only [List.getElem?_toArray, List.getElem?_cons_zero, List.getElem?_cons_succ] at b0 b1 b2 b3
      have bR := HbR.out.only hI.only (by omega)
      have r0 := bR.cell 0
      have r1 := bR.cell 1
      have r2 := bR.cell 2
      have r3 := bR.cell 3
      simp only [List.getElem?_toArray, List.getElem?_cons_zero, List.getElem?_cons_succ] at r0 r1 r2 r3
      have f0 := bR.frozen 0
      have f1 := bR.frozen 1
      have f2 := bR.frozen 2
      have f3 := bR.frozen 3
      have HR := Lib.hid bR
      have HOW := Lib.hid (HO2.out.then hI.only (fun i e => .inr (by rw [e]; omega)) : Only Nix w uk)
      clear hI bR
      generalize hZ : 6 + szZ m S s (l.map fd) (List.range k) cs = Z at *
      have HZ := Lib.hid hZ
      clear hZ
      go_wp2_with fail
      go_region
      obtain ⟨b9, o9⟩ := ls_ret (m := m) (o := o) (v2 := .slice A2 cs.length c2) (v3 := .slice A3 cs.length c3) HOW.out HR.out
      unfold lsW at b9 o9
      obtain ⟨w9, hw9⟩ : ∃ w9, World.drew ((((uk.setCell ⟨w.heap.size, 0, none⟩ (iv m)).setCell ⟨w.heap.size, 1, none⟩ (iv o)).setCell ⟨w.heap.size, 2, none⟩ (.slice A2 cs.length c2)).setCell ⟨w.heap.size, 3, none⟩ (.slice A3 cs.length c3)) = w9 := ⟨_, rfl⟩
      have oK9 : Only (fun k => k = w.heap.size) uk w9 := by
        rw [← hw9]
        exact (((((Only.refl (fun k => k = w.heap.size) uk).setCell (p := ⟨w.heap.size, 0, none⟩) (.inl rfl) _).setCell (p := ⟨w.heap.size, 1, none⟩) (.inl rfl) _).setCell (p := ⟨w.heap.size, 2, none⟩) (.inl rfl) _).setCell (p := ⟨w.heap.size, 3, none⟩) (.inl rfl) _).drew
      rw [hw9] at b9 o9 ⊢
      have k0' := b9.cell 0
      have k1' := b9.cell 1
      have k2' := b9.cell 2
      have k3' := b9.cell 3
      simp only [List.getElem?_toArray, List.getElem?_cons_zero, List.getElem?_cons_succ] at k0' k1' k2' k3'
      have h2 := owns_only HI.out.r2 oK9 (fun g e => by have := (HI.out.r2.lt g e).1; omega)
      have h3 := owns_only HI.out.r3 oK9 (fun g e => by have := (HI.out.r3.lt g e).1; omega)
      have HE := Lib.hid (And.intro (owns_down h2 (show w.heap.size ≤ V0.heap.size by omega)) (And.intro (owns_down h3 (show w.heap.size ≤ V0.heap.size by omega)) o9))
      clear b9 o9 hw9 oK9 h2 h3 b0 b1 b2 b3 r0 r1 r2 r3 f0 f1 f2 f3
      go_wp2
      refine bodyPost_ret (v := .tuple #[iv Z, planV m o (.slice A2 cs.length c2) (.slice A3 cs.length c3)]) ?_ rfl ⟨cs, _, _, by rw [HZ.out], HI.out.ok, HE.out.1, HE.out.2.1, HE.out.2.2⟩
      simp [results, Tryz.f31, go_sem, k0', k1', k2', k3']
end Go.Proofs.YteklfkpeaadinaaGreatDoor
