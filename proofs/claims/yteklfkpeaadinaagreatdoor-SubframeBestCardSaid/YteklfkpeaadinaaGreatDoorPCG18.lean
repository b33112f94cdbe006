/-
  Check, the document's and the program's; may a sample be.
-/
import Derived.Test.YteklfkpeaadinaaGreatDoorPCG17
import Derived.Laws.AppendOwnNone
import Derived.Deep.AppendLies
import Derived.Deep.OwnRows
import Derived.WalkMore
namespace Go.Proofs.YteklfkpeaadinaaGreatDoor.K
open Go.RowKit

/-- may a coefficient be -/
def isC (P c : Int) : Prop := -(2 ^ (P - 1).toNat) ≤ c ∧ c < 2 ^ (P - 1).toNat
instance (P c : Int) : Decidable (isC P c) := by unfold isC; exact inferInstance
/-- may a prediction be -/
def okL (P S : Int) (cs : List Int) : Prop := (cs.length ≤ 32 ∧ 1 ≤ P ∧ P ≤ 15 ∧ 0 ≤ S ∧ S ≤ 15) ∧ ∀ c ∈ cs, isC P c
instance (P S : Int) (cs : List Int) : Decidable (okL P S cs) := by unfold okL; exact inferInstance
/-- what is wrong with one -/
def ckL (P S : Int) (cs : List Int) : Int := if okL P S cs then 0 else 10
theorem okL_coef {P S : Int} {cs : List Int} (h : okL P S cs) : ∀ c ∈ cs, -16384 ≤ c ∧ c ≤ 16384 := fun c hc => by
  have h1 := h.2 c hc
  have h2 := h.1
  unfold isC at h1
  have h3 := pow_le_of (show (P - 1).toNat ≤ 14 by omega)
  rw [pow_cast] at h1
  omega
set_option maxHeartbeats 1000000 in
theorem isSample_any (w : World) (x : Int) : Calls Tryz.prog 116 #[iv x] w fun e w' => e = .returned (.bool (decide (isS x))) ∧ w = w' := by
  by_cases h1 : -4294967296 ≤ x
  · by_cases h2 : x < 4294967296
    · have e1 : decide (isS x) = true := decide_eq_true ⟨h1, h2⟩
      rw [e1]
      go_enter Tryz.func116, Tryz.ntmps116
      go_wp2
      go_ret
      exact ⟨rfl, rfl⟩
    · have e1 : decide (isS x) = false := decide_eq_false (fun h => h2 h.2)
      rw [e1]
      go_enter Tryz.func116, Tryz.ntmps116
      go_wp2
      go_ret
      exact ⟨rfl, rfl⟩
  · have e1 : decide (isS x) = false := decide_eq_false (fun h => h1 h.1)
    rw [e1]
    go_enter Tryz.func116, Tryz.ntmps116
    go_wp2
    go_ret
    exact ⟨rfl, rfl⟩
set_option maxHeartbeats 1000000 in
theorem may_any (w : World) (x : Int) : Calls Tryz.prog 59 #[iv x] w fun e w' => e = .returned (.bool (decide (isS x))) ∧ w = w' := by
  by_cases h1 : -4294967296 ≤ x
  · by_cases h2 : x < 4294967296
    · have e1 : decide (isS x) = true := decide_eq_true ⟨h1, h2⟩
      rw [e1]
      go_enter Tryz.func59, Tryz.ntmps59
      go_wp2
      go_ret
      exact ⟨rfl, rfl⟩
    · have e1 : decide (isS x) = false := decide_eq_false (fun h => h2 h.2)
      rw [e1]
      go_enter Tryz.func59, Tryz.ntmps59
      go_wp2
      go_ret
      exact ⟨rfl, rfl⟩
  · have e1 : decide (isS x) = false := decide_eq_false (fun h => h1 h.1)
    rw [e1]
    go_enter Tryz.func59, Tryz.ntmps59
    go_wp2
    go_ret
    exact ⟨rfl, rfl⟩
def Ckp (w1 : World) (P : Int) (cs : List Int) (s : Value) (wr : World) : Prop := ∃ j : Nat, j ≤ cs.length ∧ s = iv j ∧ (∀ c ∈ cs.take j, isC P c) ∧ Only Nix w1 wr
set_option maxHeartbeats 2000000 in
theorem check_any {w : World} (P S : Int) (A : Option Addr) (n c : Nat) (cs : List Int) (hcs : ISrc w (.slice A n c) cs) :
    Calls Tryz.prog 95 #[linV P S (.slice A n c)] w fun e w' => e = .returned (iv (ckL P S cs)) ∧ Only Nix w w' := by
  have hl := hcs.len
  have hsm := hcs.small
  rw [← hl] at hsm
  have a0 := (Only.refl Nix w).alloc (.cells #[iv P, iv S, .slice A n c] 24)
  have B0 := Box.new w 24 #[iv P, iv S, .slice A n c]
  obtain ⟨Wa, hWa⟩ : ∃ Wa, w.alloc (.cells #[iv P, iv S, .slice A n c] 24) = Wa := ⟨_, rfl⟩
  rw [hWa] at a0 B0
  have HC := Lib.hid (hcs.nix a0)
  have HA := Lib.hid a0
  have HB := Lib.hid B0
  have d0 := B0.cell 0
  have d1 := B0.cell 1
  have d2 := B0.cell 2
  simp only [List.getElem?_toArray, List.getElem?_cons_zero, List.getElem?_cons_succ] at d0 d1 d2
  have Hl := Lib.hid hl
  clear hcs a0 B0
  by_cases g0 : 32 < n
  · have e1 : ckL P S cs = 10 := if_neg (fun h => by have := h.1; omega)
    rw [e1]
    clear hl
    have gi : (32 : Int) < (n : Int) := by omega
    go_enter Tryz.func95, Tryz.ntmps95
    go_wp2
    go_ret
    exact ⟨rfl, HA.out⟩
  · have gi1 : ¬ (32 : Int) < (n : Int) := by omega
    by_cases g1 : P < 1
    · have e1 : ckL P S cs = 10 := if_neg (fun h => by have := h.1; omega)
      rw [e1]
      clear hl
      go_enter Tryz.func95, Tryz.ntmps95
      go_wp2
      go_ret
      exact ⟨rfl, HA.out⟩
    · have _hh := True.intro
      by_cases g2 : 15 < P
      · have e1 : ckL P S cs = 10 := if_neg (fun h => by have := h.1; omega)
        rw [e1]
        clear hl
        go_enter Tryz.func95, Tryz.ntmps95
        go_wp2
        go_ret
        exact ⟨rfl, HA.out⟩
      · have _hh := True.intro
        by_cases g3 : S < 0
        · have e1 : ckL P S cs = 10 := if_neg (fun h => by have := h.1; omega)
          rw [e1]
          clear hl
          go_enter Tryz.func95, Tryz.ntmps95
          go_wp2
          go_ret
          exact ⟨rfl, HA.out⟩
        · have _hh := True.intro
          by_cases g4 : 15 < S
          · have e1 : ckL P S cs = 10 := if_neg (fun h => by have := h.1; omega)
            rw [e1]
            clear hl
            go_enter Tryz.func95, Tryz.ntmps95
            go_wp2
            go_ret
            exact ⟨rfl, HA.out⟩
          · have _hh := True.intro
            obtain ⟨p, rfl⟩ := Int.eq_ofNat_of_zero_le (show 0 ≤ P by omega)
            obtain ⟨q, hq⟩ : ∃ q, p - 1 = q := ⟨_, rfl⟩
            have hqi : (p : Int) - 1 = (q : Int) := by omega
            have hq14 : q ≤ 14 := by omega
            have HP : Hid (∀ x, isC (p : Int) x ↔ -((2 ^ q : Nat) : Int) ≤ x ∧ x < ((2 ^ q : Nat) : Int)) := Lib.hid (fun x => by
              unfold isC
              rw [show ((p : Int) - 1).toNat = q by omega, pow_cast])
            have hK1 := Nat.two_pow_pos q
            have hK2 := pow_le_of hq14
            have hpw : (2 : Int) ^ q = ((2 ^ q : Nat) : Int) := pow_cast q
            have HY : Hid ((∀ x ∈ cs, isC (p : Int) x) → ckL p S cs = 0) := Lib.hid (fun h => if_pos ⟨⟨by omega, by omega, by omega, by omega, by omega⟩, h⟩)
            have HN : Hid (¬ (∀ x ∈ cs, isC (p : Int) x) → ckL p S cs = 10) := Lib.hid (fun h => if_neg (fun h2 => h h2.2))
            generalize (2 : Nat) ^ q = K at *
            have hK3 : K ≤ 16384 := hK2
            clear hK2 hl hq
            go_enter Tryz.func95, Tryz.ntmps95
            go_wp2
            go_loopw [37] (fun s wr => Ckp Wa p cs s wr) (fun s _ => n - (intOf s).toNat)
            case atStart => exact ⟨0, Nat.zero_le _, rfl, by simp, Only.refl _ _⟩
            case round =>
              obtain ⟨j, hj, rfl, hal, hO⟩ := hrel
              rw [← Hl.out] at hj
              have q0 := (HB.out.only hO (fun e => e)).cell 0
              have q2 := (HB.out.only hO (fun e => e)).cell 2
              simp only [List.getElem?_toArray, List.getElem?_cons_zero, List.getElem?_cons_succ] at q0 q2
              have HAl := Lib.hid hal
              have HO := Lib.hid hO
              clear hal hO
              by_cases hlt : j < n
              · have hltx : j < cs.length := by rw [← Hl.out]; exact hlt
                obtain ⟨ad, rfl, hx⟩ := (HC.out.nix HO.out).at_ hltx
                have hft := HC.out.fits _ (List.getElem_mem hltx)
                have hlt2 : (j : Int) < (n : Int) := by omega
                have HM := Lib.hid (List.getElem_mem hltx)
                have HE := Lib.hid (List.take_succ_eq_append_getElem hltx)
                have HI := Lib.hid (HP.out cs[j])
                generalize cs[j] = x at *
                clear hltx
                by_cases k1 : x < -(K : Int)
                · have HX := Lib.hid (HN.out (fun h => by have := HI.out.1 (h _ HM.out); omega))
                  clear HY HN HI
                  go_wp2
                  go_ret
                  exact ⟨by rw [HX.out] <;> rfl, HA.out.trans HO.out⟩
                · by_cases k2 : (K : Int) ≤ x
                  · have HX := Lib.hid (HN.out (fun h => by have := HI.out.1 (h _ HM.out); omega))
                    clear HY HN HI
                    go_wp2
                    go_ret
                    exact ⟨by rw [HX.out] <;> rfl, HA.out.trans HO.out⟩
                  · have HI2 := Lib.hid (HI.out.2 ⟨by omega, by omega⟩)
                    clear HI
                    go_wp2
                    go_roundw
                    case rel => exact ⟨j + 1, by rw [← Hl.out]; omega, by go_num, fun y hy => by
                        rw [HE.out] at hy
                        rcases List.mem_append.1 hy with hy | hy
                        · exact HAl.out y hy
                        · simp at hy; subst hy; exact HI2.out, HO.out⟩
                    case measure => simp [intOf]; omega
              · have HX := Lib.hid (HY.out (fun y hy => HAl.out y (by rw [List.take_of_length_le (by rw [← Hl.out]; omega)]; exact hy)))
                clear HY HN
                go_wp2
                go_ret
                exact ⟨by rw [HX.out] <;> rfl, HA.out.trans HO.out⟩
def Ckr (w1 : World) (P : Int) (cs : List Int) (s : Value) (wr : World) : Prop := ∃ j : Nat, j ≤ cs.length ∧ s = iv j ∧ (∀ c ∈ cs.take j, isC P c) ∧ Only Nix w1 wr
set_option maxHeartbeats 2000000 in
theorem checkRef_any {w : World} (P S : Int) (A : Option Addr) (n c : Nat) (cs : List Int) (hcs : ISrc w (.slice A n c) cs) :
    Calls Tryz.prog 50 #[linV P S (.slice A n c)] w fun e w' => e = .returned (iv (ckL P S cs)) ∧ Only Nix w w' := by
  have hl := hcs.len
  have hsm := hcs.small
  rw [← hl] at hsm
  have a0 := (Only.refl Nix w).alloc (.cells #[iv P, iv S, .slice A n c] 53)
  have B0 := Box.new w 53 #[iv P, iv S, .slice A n c]
  obtain ⟨Wa, hWa⟩ : ∃ Wa, w.alloc (.cells #[iv P, iv S, .slice A n c] 53) = Wa := ⟨_, rfl⟩
  rw [hWa] at a0 B0
  have HC := Lib.hid (hcs.nix a0)
  have HA := Lib.hid a0
  have HB := Lib.hid B0
  have d0 := B0.cell 0
  have d1 := B0.cell 1
  have d2 := B0.cell 2
  simp only [List.getElem?_toArray, List.getElem?_cons_zero, List.getElem?_cons_succ] at d0 d1 d2
  have Hl := Lib.hid hl
  clear hcs a0 B0
  by_cases g0 : 32 < n
  · have e1 : ckL P S cs = 10 := if_neg (fun h => by have := h.1; omega)
    rw [e1]
    clear hl
    have gi : (32 : Int) < (n : Int) := by omega
    go_enter Tryz.func50, Tryz.ntmps50
    go_wp2
    go_ret
    exact ⟨rfl, HA.out⟩
  · have gi1 : ¬ (32 : Int) < (n : Int) := by omega
    by_cases g1 : P < 1
    · have e1 : ckL P S cs = 10 := if_neg (fun h => by have := h.1; omega)
      rw [e1]
      clear hl
      go_enter Tryz.func50, Tryz.ntmps50
      go_wp2
      go_ret
      exact ⟨rfl, HA.out⟩
    · have _hh := True.intro
      by_cases g2 : 15 < P
      · have e1 : ckL P S cs = 10 := if_neg (fun h => by have := h.1; omega)
        rw [e1]
        clear hl
        go_enter Tryz.func50, Tryz.ntmps50
        go_wp2
        go_ret
        exact ⟨rfl, HA.out⟩
      · have _hh := True.intro
        by_cases g3 : S < 0
        · have e1 : ckL P S cs = 10 := if_neg (fun h => by have := h.1; omega)
          rw [e1]
          clear hl
          go_enter Tryz.func50, Tryz.ntmps50
          go_wp2
          go_ret
          exact ⟨rfl, HA.out⟩
        · have _hh := True.intro
          by_cases g4 : 15 < S
          · have e1 : ckL P S cs = 10 := if_neg (fun h => by have := h.1; omega)
            rw [e1]
            clear hl
            go_enter Tryz.func50, Tryz.ntmps50
            go_wp2
            go_ret
            exact ⟨rfl, HA.out⟩
          · have _hh := True.intro
            obtain ⟨p, rfl⟩ := Int.eq_ofNat_of_zero_le (show 0 ≤ P by omega)
            obtain ⟨q, hq⟩ : ∃ q, p - 1 = q := ⟨_, rfl⟩
            have hqi : (p : Int) - 1 = (q : Int) := by omega
            have hq14 : q ≤ 14 := by omega
            have HP : Hid (∀ x, isC (p : Int) x ↔ -((2 ^ q : Nat) : Int) ≤ x ∧ x < ((2 ^ q : Nat) : Int)) := Lib.hid (fun x => by
              unfold isC
              rw [show ((p : Int) - 1).toNat = q by omega, pow_cast])
            have hK1 := Nat.two_pow_pos q
            have hK2 := pow_le_of hq14
            have hpw : (2 : Int) ^ q = ((2 ^ q : Nat) : Int) := pow_cast q
            have HY : Hid ((∀ x ∈ cs, isC (p : Int) x) → ckL p S cs = 0) := Lib.hid (fun h => if_pos ⟨⟨by omega, by omega, by omega, by omega, by omega⟩, h⟩)
            have HN : Hid (¬ (∀ x ∈ cs, isC (p : Int) x) → ckL p S cs = 10) := Lib.hid (fun h => if_neg (fun h2 => h h2.2))
            generalize (2 : Nat) ^ q = K at *
            have hK3 : K ≤ 16384 := hK2
            clear hK2 hl hq
            have hwq : IntKind.i64.wrap (q : Int) = (q : Int) := w64k _ (by omega) (by omega)
            have hwK : IntKind.i64.wrap (K : Int) = (K : Int) := w64k _ (by omega) (by omega)
            have hwN : IntKind.i64.wrap (-(K : Int)) = -(K : Int) := w64k _ (by omega) (by omega)
            go_enter Tryz.func50, Tryz.ntmps50
            go_wp2
            go_loopw [3] (fun s wr => Ckr Wa p cs s wr) (fun s _ => n - (intOf s).toNat)
            case atStart => exact ⟨0, Nat.zero_le _, rfl, by simp, Only.refl _ _⟩
            case round =>
              obtain ⟨j, hj, rfl, hal, hO⟩ := hrel
              rw [← Hl.out] at hj
              have q0 := (HB.out.only hO (fun e => e)).cell 0
              have q2 := (HB.out.only hO (fun e => e)).cell 2
              simp only [List.getElem?_toArray, List.getElem?_cons_zero, List.getElem?_cons_succ] at q0 q2
              have HAl := Lib.hid hal
              have HO := Lib.hid hO
              clear hal hO
              by_cases hlt : j < n
              · have hltx : j < cs.length := by rw [← Hl.out]; exact hlt
                obtain ⟨ad, rfl, hx⟩ := (HC.out.nix HO.out).at_ hltx
                have hft := HC.out.fits _ (List.getElem_mem hltx)
                have hlt2 : (j : Int) < (n : Int) := by omega
                have HM := Lib.hid (List.getElem_mem hltx)
                have HE := Lib.hid (List.take_succ_eq_append_getElem hltx)
                have HI := Lib.hid (HP.out cs[j])
                generalize cs[j] = x at *
                clear hltx
                by_cases k1 : x < -(K : Int)
                · have HX := Lib.hid (HN.out (fun h => by have := HI.out.1 (h _ HM.out); omega))
                  clear HY HN HI
                  go_wp2_with fail
                  go_quiet (fail)
                  go_wp2
                  go_ret
                  exact ⟨by rw [HX.out] <;> rfl, (HA.out.trans HO.out).drewN _⟩
                · by_cases k2 : (K : Int) ≤ x
                  · have HX := Lib.hid (HN.out (fun h => by have := HI.out.1 (h _ HM.out); omega))
                    clear HY HN HI
                    go_wp2_with fail
                    go_quiet (fail)
                    go_wp2
                    go_ret
                    exact ⟨by rw [HX.out] <;> rfl, (HA.out.trans HO.out).drewN _⟩
                  · have HI2 := Lib.hid (HI.out.2 ⟨by omega, by omega⟩)
                    clear HI
                    go_wp2_with fail
                    go_quiet (fail)
                    go_wp2
                    go_roundw
                    case rel => exact ⟨j + 1, by rw [← Hl.out]; omega, by go_num, fun y hy => by
                        rw [HE.out] at hy
                        rcases List.mem_append.1 hy with hy | hy
                        · exact HAl.out y hy
                        · simp at hy; subst hy; exact HI2.out, HO.out.drewN _⟩
                    case measure => simp [intOf]; omega
              · have HX := Lib.hid (HY.out (fun y hy => HAl.out y (by rw [List.take_of_length_le (by rw [← Hl.out]; omega)]; exact hy)))
                clear HY HN
                go_wp2
                go_ret
                exact ⟨by rw [HX.out] <;> rfl, HA.out.trans HO.out⟩
end Go.Proofs.YteklfkpeaadinaaGreatDoor.K
namespace Go.Proofs.YteklfkpeaadinaaGreatDoor.K
open Go.RowKit

theorem Tryz.info_int : (Tryz.prog.info? 3).map (fun i => (i.zero, i.size, i.bytes)) = some (some (.int .i64 0), 1, 8) := by kernel_rfl
theorem wpList_append_one {w : World} {ops : Array Oper} {rest : List Oper} {o : Oper} {a : Act} {Q : Exit → Act → World → Prop} (hg : o.guard = none) (s x : Operand)
    (hop : o.op = Op.call { callee := Callee.builtin Builtin.append, args := #[s, x], argTypes := #[22, 22] })
    (base : Nat) (v : Value) (n : Nat) (xs : List Value) (hs : a.eval s = v) (hown : w.ownsRow base 3 1 v n xs) (H : Nat) (y : Int) (hx : a.eval x = .slice (some ⟨H, 0, none⟩) 1 1) (hc : w.cell? ⟨H, 0, none⟩ = some (iv y)) (hn : n ≤ 100000000) (hb : base ≤ w.heap.size)
    (hK : ∀ g cap w', w'.ownsRow base 3 1 (.slice (some ⟨g, 0, none⟩) (n + 1) cap) (n + 1) (xs ++ [iv y]) → w.grownBy w' v.ownBlock → (v.ownBlock = some g ∨ g = w.heap.size) → wpList Tryz.prog ops Q rest (a.put o.dst (.slice (some ⟨g, 0, none⟩) (n + 1) cap)) w') :
    wpList Tryz.prog ops Q (o :: rest) a w := by
  obtain ⟨i0, hi, hz0, hz1, hz2⟩ := info_parts Tryz.info_int
  exact wpList_append_lies w hg s x 22 hop base 3 i0 (.int .i64 0) 1 8 Tryz.underlying22 hi hz0 hz1 hz2 rfl (by decide) v n xs hs hown ⟨H, 0, none⟩ 1 1 [iv y] hx rfl (fun j u hu => by
    obtain rfl : j = 0 := by
      have := (List.getElem?_eq_some_iff.1 hu).1
      simp at this
      omega
    rw [Addr.add_lit, hc]
    simpa using hu) (fun u hu => by simp at hu; subst hu; rfl) (by decide) (by unfold maxLen; omega) (by omega) hb _ rfl (fun g cap w' r1 r2 r3 _ => hK g cap w' r1 r2 r3)
theorem row_form {W : World} {base n : Nat} {v : Value} {xs : List Value} (h : W.ownsRow base 3 1 v n xs) (hn : 0 < n) : ∃ g c, v = .slice (some ⟨g, 0, none⟩) n c ∧ base ≤ g := by
  rcases h.2 with ⟨_, e⟩ | ⟨g, cap, cur, e, hb, _⟩
  · omega
  · exact ⟨g, cap, e, hb⟩
theorem isrc_row {W : World} {base n g c : Nat} {vs : List Value} {xs : List Int} (h : W.ownsRow base 3 1 (.slice (some ⟨g, 0, none⟩) n c) n vs) (e : vs = xs.map iv) (hf : ∀ x ∈ xs, -9223372036854775808 ≤ x ∧ x ≤ 9223372036854775807) (hn : n ≤ 100000000) : ISrc W (.slice (some ⟨g, 0, none⟩) n c) xs := by
  have hl : xs.length = n := by
    have := h.1
    rw [e, List.length_map] at this
    omega
  have hc : n ≤ c := by
    rcases h.2 with ⟨e, _⟩ | ⟨g', cap, cur, e, _, _, h3, _⟩
    · cases e
    · injection e with _ _ e3; omega
  refine ⟨⟨_, c, by rw [hl], by omega, fun j hj => ⟨_, rfl, ?_⟩⟩, by omega, hf⟩
  refine World.ownsRow.cells h (g := g) rfl j _ ?_
  rw [e, List.getElem?_map, List.getElem?_eq_getElem hj]
  rfl
set_option maxRecDepth 100000 in
theorem made_own (u : World) (c base : Nat) (hc : c ≤ 1000000) (hb : base ≤ u.heap.size) :
    (Go.Instr.makeSlice 22 (.int .i64 0) (.int .i64 (c : Int))).run Tryz.prog u = .ok (.slice (some ⟨u.heap.size, 0, none⟩) 0 c) (u.alloc (.cells (madeCells #[.int .i64 0] c) 3)) ∧
    (u.alloc (.cells (madeCells #[.int .i64 0] c) 3)).ownsRow base 3 1 (.slice (some ⟨u.heap.size, 0, none⟩) 0 c) 0 [] := by
  obtain ⟨i0, hi, hz0, hz1, hz2⟩ := info_parts Tryz.info_int
  obtain ⟨w', h1, h2, _⟩ := run_make_own u base 22 3 i0 (.int .i64 0) 1 Tryz.underlying22 hi hz0 hz1 .i64 .i64 c (by rw [hz2]; omega) (by unfold maxLen; omega) hb
  have h3 := run_make u 22 3 i0 (.int .i64 0) Tryz.underlying22 hi hz0 .i64 .i64 0 (c : Int) (by omega) (by omega) (by rw [hz2]; omega) (by omega)
  rw [hz1, Nat.mul_one, Int.toNat_natCast] at h3
  rw [h1] at h3
  injection h3 with _ e
  subst e
  exact ⟨h1, h2⟩
end Go.Proofs.YteklfkpeaadinaaGreatDoor.K
namespace Go.Proofs.YteklfkpeaadinaaGreatDoor.K
open Go.RowKit

/-- the first residuals -/
def resT (s : Nat) (cs xs : List Int) (k : Nat) : List Int := (List.range k).map fun i => xs.getD (cs.length + i) 0 - tld s cs xs (cs.length + i)
theorem resT_len (s : Nat) (cs xs : List Int) (k : Nat) : (resT s cs xs k).length = k := by simp [resT]
theorem resT_snoc (s : Nat) (cs xs : List Int) (k : Nat) : resT s cs xs (k + 1) = resT s cs xs k ++ [xs.getD (cs.length + k) 0 - tld s cs xs (cs.length + k)] := by simp [resT, List.range_succ]
/-- what is wrong with samples to be told -/
def resE (P S : Int) (cs xs : List Int) : Int := if okL P S cs then (if xs.length < cs.length then 1 else if ∀ x ∈ xs, isS x then 0 else 10) else 10
/-- the residuals -/
def resV (P S : Int) (cs xs : List Int) : List Int := if resE P S cs xs = 0 then resT S.toNat cs xs (xs.length - cs.length) else []
theorem getD_of {xs : List Int} {j : Nat} (h : j < xs.length) : xs.getD j 0 = xs[j] := by rw [List.getD_eq_getElem?_getD, List.getElem?_eq_getElem h]; rfl
theorem allS_getD {xs : List Int} {j : Nat} (h : ∀ x ∈ xs.take j, isS x) : ∀ i, i < j → isS (xs.getD i 0) := by
  intro i hi
  by_cases hl : i < xs.length
  · rw [getD_of hl]
    refine h _ ?_
    rw [List.mem_take_iff_getElem]
    exact ⟨i, by omega, rfl⟩
  · rw [List.getD_eq_getElem?_getD, List.getElem?_eq_none (by omega)]
    show isS 0
    decide
theorem resT_bound {P S : Int} {cs xs : List Int} (h : okL P S cs) (hx : ∀ x ∈ xs, isS x) (k : Nat) : ∀ y ∈ resT S.toNat cs xs k, -4503599627370496 ≤ y ∧ y ≤ 4503599627370496 := by
  intro y hy
  obtain ⟨i, _, rfl⟩ := List.mem_map.1 hy
  have hs : ∀ j, isS (xs.getD j 0) := fun j => getD_all hx (by decide) j
  have h1 := tld_bound S.toNat cs xs (cs.length + i) (okL_coef h) (fun j _ => hs j) (by omega) h.1.1
  have h2 := hs (cs.length + i)
  unfold isS at h2
  omega
theorem resV_bound (P S : Int) (cs xs : List Int) : ∀ y ∈ resV P S cs xs, -4503599627370496 ≤ y ∧ y ≤ 4503599627370496 := by
  intro y hy
  unfold resV at hy
  by_cases h0 : resE P S cs xs = 0
  · rw [if_pos h0] at hy
    unfold resE at h0
    by_cases hok : okL P S cs
    · rw [if_pos hok] at h0
      by_cases hl : xs.length < cs.length
      · rw [if_pos hl] at h0; omega
      · rw [if_neg hl] at h0
        by_cases ha : ∀ x ∈ xs, isS x
        · exact resT_bound hok ha _ y hy
        · rw [if_neg ha] at h0; omega
    · rw [if_neg hok] at h0; omega
  · rw [if_neg h0] at hy; cases hy
theorem isrc_nil (w : World) : ISrc w (.slice none 0 0) [] := ⟨⟨none, 0, rfl, Nat.le_refl _, fun j hj => by simp at hj⟩, by simp, by simp⟩
def ResP (w w2 : World) (r nc s : Nat) (cs xs : List Int) (s8 s9 s35 : Value) (wr : World) : Prop :=
  ∃ (j : Nat) (v : Value), j ≤ xs.length ∧ s35 = iv j ∧ s9 = .int .i64 0 ∧ s8 = v ∧ (∃ A c, v = .slice A (j - nc) c) ∧ (∀ x ∈ xs.take j, isS x) ∧
    wr.ownsRow w.heap.size 3 1 v (j - nc) ((resT s cs xs (j - nc)).map iv) ∧ (∀ g, v.ownBlock = some g → g = r ∨ w2.heap.size ≤ g) ∧ Only (Just r) w2 wr ∧ Only Nix w wr
/-- what Residual answers -/
def ResR (w : World) (P S : Int) (cs xs : List Int) (e : Ending) (w' : World) : Prop :=
  (∃ A c, e = .returned (.tuple #[.slice A (resV P S cs xs).length c, iv (resE P S cs xs)]) ∧ ISrc w' (.slice A (resV P S cs xs).length c) (resV P S cs xs)) ∧ Only Nix w w'
theorem ResR.bad {w w' : World} {P S : Int} {cs xs : List Int} {E : Int} (hE : resE P S cs xs = E) (h0 : E ≠ 0) (ho : Only Nix w w') : ResR w P S cs xs (.returned (.tuple #[.slice none 0 0, iv E])) w' := by
  have hv : resV P S cs xs = [] := if_neg (by rw [hE]; exact h0)
  refine ⟨⟨none, 0, by rw [hv, hE]; rfl, ?_⟩, ho⟩
  rw [hv]
  exact isrc_nil w'
/-- a slice that is answered is new -/
def FreshR (w : World) (e : Ending) : Prop := ∀ A n c E, e = .returned (.tuple #[.slice A n c, E]) → 0 < n → ∀ ad, A = some ad → w.heap.size ≤ ad.block
/-- both -/
def ResN (w : World) (P S : Int) (cs xs : List Int) (e : Ending) (w' : World) : Prop := ResR w P S cs xs e w' ∧ FreshR w e
theorem FreshR.bad (w : World) (E : Value) : FreshR w (.returned (.tuple #[.slice none 0 0, E])) := fun A n c E' e hn => by
  injection e with e
  injection e with e
  simp only [Array.mk.injEq, List.cons.injEq, Value.slice.injEq] at e
  omega
set_option maxRecDepth 100000 in
set_option maxHeartbeats 4000000 in
theorem residual_new {w : World} (P S : Int) (Ac : Option Addr) (nc cc : Nat) (cs : List Int) (A : Option Addr) (n c : Nat) (xs : List Int) (hcs : ISrc w (.slice Ac nc cc) cs) (hxs : ISrc w (.slice A n c) xs) (hn : n ≤ 1000) :
    Calls Tryz.prog 90 #[linV P S (.slice Ac nc cc), .slice A n c] w fun e w' => ResN w P S cs xs e w' := by
  have hcl := hcs.len
  have hxl := hxs.len
  have hsc := hcs.small
  have hcap := hxs.cap
  rw [← hcl] at hsc
  rw [← hxl] at hcap
  have a0 := (Only.refl Nix w).alloc (.cells #[iv P, iv S, .slice Ac nc cc] 24)
  have B0 := Box.new w 24 #[iv P, iv S, .slice Ac nc cc]
  obtain ⟨Wa, hWa⟩ : ∃ Wa, w.alloc (.cells #[iv P, iv S, .slice Ac nc cc] 24) = Wa := ⟨_, rfl⟩
  rw [hWa] at a0 B0
  have HCk := Lib.hid (check_any P S Ac nc cc cs (hcs.nix a0))
  have d0 := B0.cell 0
  have d1 := B0.cell 1
  have d2 := B0.cell 2
  simp only [List.getElem?_toArray, List.getElem?_cons_zero, List.getElem?_cons_succ] at d0 d1 d2
  have HB := Lib.hid B0
  have HA := Lib.hid a0
  have HC := Lib.hid hcs
  have HX := Lib.hid hxs
  have Hcl := Lib.hid hcl
  have Hxl := Lib.hid hxl
  clear hcs hxs a0 B0 hcl hxl
  go_enter Tryz.func90, Tryz.ntmps90
  go_wp2
  go_step3
  by_cases hok : okL P S cs
  · obtain ⟨s, hs⟩ : ∃ s : Nat, S = (s : Int) := ⟨S.toNat, by have := hok.1; omega⟩
    subst hs
    have e0 : ckL P (s : Int) cs = 0 := if_pos hok
    rw [e0] at HCk
    go_wp2_with fail
    refine (HCk.out).mono ?_
    rintro e w1 ⟨rfl, o1⟩
    have c0 := cell_keep o1 d0
    have c1 := cell_keep o1 d1
    have c2 := cell_keep o1 d2
    have HO1 := Lib.hid (HA.out.trans o1)
    clear o1 d0 d1 d2 HCk e0
    have HOK := Lib.hid hok
    clear hok
    by_cases hlt : n < nc
    · have hE : resE P (s : Int) cs xs = 1 := by unfold resE; rw [if_pos HOK.out, if_pos (by rw [← Hxl.out, ← Hcl.out]; exact hlt)]
      have HE := Lib.hid hE
      have hlti : (n : Int) < (nc : Int) := by omega
      clear hE
      go_wp2
      go_ret2
      exact ⟨ResR.bad HE.out (by decide) HO1.out, FreshR.bad _ _⟩
    · have hlti : ¬ (n : Int) < (nc : Int) := by omega
      have hnc : ((n : Int) - (nc : Int)) = ((n - nc : Nat) : Int) := by omega
      have hm := made_own w1 (n - nc) w.heap.size (by omega) HO1.out.size
      obtain ⟨k, hk⟩ : ∃ k, n - nc = k := ⟨_, rfl⟩
      rw [hk] at hm hnc
      obtain ⟨hmk, hrow⟩ := hm
      have a2 := (Only.refl Nix w1).alloc (.cells (madeCells #[.int .i64 0] k) 3)
      generalize madeCells #[.int .i64 0] k = MC at *
      have e0 := cell_keep a2 c0
      have e1 := cell_keep a2 c1
      have e2 := cell_keep a2 c2
      have HA2 := Lib.hid a2
      have HT := Lib.hid (teller_any (w := w1.alloc (.cells MC 3)) P (s : Int) Ac nc cc A n c (by omega))
      have HR := Lib.hid hrow
      have Hk := Lib.hid hk
      clear hrow a2 hk
      go_wp2_with fail
      refine (HT.out).mono ?_
      rintro e w2 ⟨rfl, hTl, o2⟩
      have hrow2 := owns_only HR.out o2 (fun _ _ e => e)
      have HO2 := Lib.hid (((HO1.out.trans HA2.out).trans o2))
      have HTl := Lib.hid hTl
      have HR2 := Lib.hid hrow2
      clear hTl o2 hrow2 HT c0 c1 c2 e0 e1 e2
      rw [World.size_alloc] at HTl
      have hs15 : s ≤ 15 := by have := HOK.out.1; omega
      have h32 : nc ≤ 32 := by have := HOK.out.1; have := Hcl.out; omega
      go_wp2
      go_step3
      go_wp2
      go_loopw [8, 9, 35] (fun s8 s9 s35 wr => ResP w w2 w1.heap.size nc s cs xs s8 s9 s35 wr) (fun _ _ s35 _ => n - (intOf s35).toNat)
      case atStart =>
        refine ⟨0, _, Nat.zero_le _, rfl, rfl, rfl, ⟨some ⟨w1.heap.size, 0, none⟩, k, by rw [Nat.zero_sub]⟩, by simp, ?_, ?_⟩
        · rw [Nat.zero_sub]
          exact HR2.out
        · exact ⟨fun g e => .inl (by injection e with e; exact e.symm), Only.refl _ _, HO2.out⟩
      case round =>
        obtain ⟨j, v, hj, rfl, rfl, rfl, ⟨A5, c5, rfl⟩, hal, hown, hgv, hO, hOw⟩ := hrel
        rw [← Hxl.out] at hj
        have HAl := Lib.hid hal
        have HO := Lib.hid hO
        have HW := Lib.hid hOw
        have HGV := Lib.hid hgv
        have HOw := Lib.hid hown
        clear hal hO hown hgv hOw
        by_cases hlt2 : j < n
        · have hltx : j < xs.length := by rw [← Hxl.out]; exact hlt2
          obtain ⟨ad, rfl, hx⟩ := (HX.out.nix HW.out).at_ hltx
          have hft := HX.out.fits _ (List.getElem_mem hltx)
          have HM := Lib.hid (List.getElem_mem hltx)
          have HE := Lib.hid (List.take_succ_eq_append_getElem hltx)
          have HG := Lib.hid (getD_of hltx)
          have hlt2i : (j : Int) < (n : Int) := by omega
          have HI := Lib.hid (isSample_any wr xs[j])
          generalize xs[j] = x at *
          clear hltx
          by_cases hS : isS x
          · rw [decide_eq_true hS] at HI
            have HS := Lib.hid hS
            have HAl2 : Hid (∀ y ∈ xs.take (j + 1), isS y) := Lib.hid (fun y hy => by
              rw [HE.out] at hy
              rcases List.mem_append.1 hy with hy | hy
              · exact HAl.out y hy
              · simp at hy; subst hy; exact HS.out)
            clear hS
            by_cases hjo : j < nc
            · have hjoi : (j : Int) < (nc : Int) := by omega
              go_wp2_with fail
              refine (HI.out).mono ?_
              rintro e w9 ⟨rfl, rfl⟩
              go_wp2
              go_roundw
              case rel =>
                have h0 : j + 1 - nc = j - nc := by omega
                exact ⟨j + 1, _, by rw [← Hxl.out]; omega, by go_num, rfl, rfl, ⟨A5, c5, by rw [h0]⟩, HAl2.out, by rw [h0]; exact HOw.out, HGV.out, HO.out, HW.out⟩
              case measure => simp [intOf]; omega
            · have hjoi : ¬ (j : Int) < (nc : Int) := by omega
              have HTe := Lib.hid (tell_any (at_ := j) (HTl.out.only HO.out (fun q h1 _ e => by cases e; omega)) (HC.out.nix HW.out) (HX.out.nix HW.out) (by omega) (by omega) hcap h32 hs15 (okL_coef HOK.out) (allS_getD HAl.out))
              have htb := tld_bound s cs xs j (okL_coef HOK.out) (allS_getD HAl.out) (by rw [← Hcl.out]; omega) (by rw [← Hcl.out]; exact h32)
              have hSb := HS.out
              unfold isS at hSb
              have HTS : Hid (resT s cs xs (j - nc + 1) = resT s cs xs (j - nc) ++ [x - tld s cs xs j]) := Lib.hid (by
                rw [resT_snoc, ← Hcl.out, show nc + (j - nc) = j by omega, HG.out])
              generalize tld s cs xs j = tl at *
              have h0 : j - nc ≤ 1000 := by omega
              have hlo : j + 1 - nc = j - nc + 1 := by omega
              have Hlo := Lib.hid hlo
              clear hlo
              go_wp2_with fail
              refine (HI.out).mono ?_
              rintro e w9 ⟨rfl, rfl⟩
              go_wp2_with fail
              refine (HTe.out).mono ?_
              rintro e w9 ⟨rfl, o9⟩
              have HR9 := Lib.hid (owns_only HOw.out o9 (fun _ _ e => e))
              have HO9 := Lib.hid (HO.out.trans o9.nix)
              have HW9 := Lib.hid (HW.out.trans o9)
              have hsz := HW9.out.size
              clear HTe o9 HI
              go_wp2_with (at_builtin; refine wpList_append_one rfl (.tmp 48) (.tmp 54) rfl w.heap.size (.slice A5 (j - nc) c5) (j - nc) ((resT s cs xs (j - nc)).map iv) rfl ?ownM w9.heap.size (x - tl) rfl ?cellM ?nM ?baseM ?restM)
              case ownM => exact HR9.out.alloc _
              case cellM => exact (Box.new w9 3 #[iv (x - tl)]).cell 0
              case nM => omega
              case baseM => rw [World.size_alloc]; omega
              case restM =>
                intro g cap w10 h10 h11 h12
                have HO10 := Lib.hid ((HO9.out.alloc (.cells #[iv (x - tl)] 3)).grown h11 (fun q e => HGV.out q e))
                have HW10 := Lib.hid ((HW9.out.alloc (.cells #[iv (x - tl)] 3)).grown h11 (fun q e => .inr (HR9.out.lt q e).1))
                have HGV2 : Hid (∀ q, (Value.slice (some ⟨g, 0, none⟩) (j - nc + 1) cap).ownBlock = some q → q = w1.heap.size ∨ w2.heap.size ≤ q) := Lib.hid (fun q e => by
                  injection e with e
                  rcases h12 with h12 | h12
                  · exact HGV.out q (by rw [h12, ← e])
                  · refine .inr ?_
                    have := HO9.out.size
                    have e' : g = q := e
                    omega)
                have HR10 := Lib.hid h10
                clear h10 h11 h12
                go_wp2
                go_roundw
                case rel =>
                  exact ⟨j + 1, _, by rw [← Hxl.out]; omega, by go_num, rfl, rfl, ⟨_, _, by rw [Hlo.out]⟩, HAl2.out, by rw [Hlo.out, HTS.out, List.map_append]; exact HR10.out, HGV2.out, HO10.out, HW10.out⟩
                case measure => simp [intOf]; omega
          · rw [decide_eq_false hS] at HI
            have hE : resE P (s : Int) cs xs = 10 := by
              unfold resE
              rw [if_pos HOK.out, if_neg (by rw [← Hxl.out, ← Hcl.out]; exact hlt), if_neg (fun h => hS (h x HM.out))]
            have HEE := Lib.hid hE
            clear hS hE
            go_wp2_with fail
            refine (HI.out).mono ?_
            rintro e w9 ⟨rfl, rfl⟩
            go_wp2
            go_ret2
            exact ⟨ResR.bad HEE.out (by decide) HW.out, FreshR.bad _ _⟩
        · obtain rfl : j = n := by omega
          have hS : ∀ y ∈ xs, isS y := fun y hy => HAl.out y (by rw [List.take_of_length_le (by rw [← Hxl.out]; exact Nat.le_refl _)]; exact hy)
          have hE : resE P (s : Int) cs xs = 0 := by
            unfold resE
            rw [if_pos HOK.out, if_neg (by rw [← Hxl.out, ← Hcl.out]; exact hlt), if_pos hS]
          have hV : resV P (s : Int) cs xs = resT s cs xs (j - nc) := by
            unfold resV
            rw [if_pos hE, Int.toNat_natCast, ← Hxl.out, ← Hcl.out]
          have HFr : Hid (FreshR w (.returned (.tuple #[.slice A5 (j - nc) c5, iv 0]))) := Lib.hid (fun A' n' c' E' e hn' ad ha => by
            injection e with e
            injection e with e
            simp only [Array.mk.injEq, List.cons.injEq, Value.slice.injEq] at e
            obtain ⟨g, c6, e6, hg⟩ := row_form HOw.out (by omega)
            injection e6 with eA _ _
            rw [← e.1.1, eA] at ha
            injection ha with ha
            rw [← ha]
            exact hg)
          have HFin : Hid (ResR w P (s : Int) cs xs (.returned (.tuple #[.slice A5 (j - nc) c5, iv 0])) wr) := Lib.hid (by
            refine ⟨⟨A5, c5, by rw [hV, resT_len, hE], ?_⟩, HW.out⟩
            have hb := resV_bound P (s : Int) cs xs
            rw [hV] at hb ⊢
            rw [resT_len]
            rcases Nat.eq_zero_or_pos (j - nc) with h0 | h0
            · rw [h0]
              exact ⟨⟨A5, c5, rfl, Nat.zero_le _, fun i hi => by simp [resT] at hi⟩, by simp [resT], by simp [resT]⟩
            · obtain ⟨g, c6, e6, _⟩ := row_form HOw.out h0
              injection e6 with eA _ ec
              subst eA ec
              exact isrc_row HOw.out rfl (fun y hy => by have := hb y hy; omega) (by omega))
          clear hS hE hV
          go_wp2
          go_ret2
          exact ⟨HFin.out, HFr.out⟩
  · have e0 : ckL P S cs = 10 := if_neg hok
    have hE : resE P S cs xs = 10 := if_neg hok
    rw [e0] at HCk
    have HE := Lib.hid hE
    clear hok e0 hE
    go_wp2_with fail
    refine (HCk.out).mono ?_
    rintro e w1 ⟨rfl, o1⟩
    have HO1 := Lib.hid (HA.out.trans o1)
    clear o1
    go_wp2
    go_ret2
    exact ⟨ResR.bad HE.out (by decide) HO1.out, FreshR.bad _ _⟩
theorem residual_any {w : World} (P S : Int) (Ac : Option Addr) (nc cc : Nat) (cs : List Int) (A : Option Addr) (n c : Nat) (xs : List Int) (hcs : ISrc w (.slice Ac nc cc) cs) (hxs : ISrc w (.slice A n c) xs) (hn : n ≤ 1000) :
    Calls Tryz.prog 90 #[linV P S (.slice Ac nc cc), .slice A n c] w fun e w' => ResR w P S cs xs e w' :=
  (residual_new P S Ac nc cc cs A n c xs hcs hxs hn).mono fun _ _ h => h.1
end Go.Proofs.YteklfkpeaadinaaGreatDoor.K
namespace Go.Proofs.YteklfkpeaadinaaGreatDoor.K
open Go.RowKit

theorem floor_is (a : Int) (U : Nat) (hU : 0 < U) : (if a < Int.tdiv a U * U then Int.tdiv a U - 1 else Int.tdiv a U) = a / (U : Int) := by
  have h1 := Int.mul_tdiv_add_tmod a U
  have hU' : (0 : Int) < (U : Int) := by omega
  have key : ∀ q r : Int, a = U * q + r → 0 ≤ r → r < U → a / (U : Int) = q := by
    intro q r h hr0 hr1
    rw [h, Int.mul_comm, Int.add_comm, Int.add_mul_ediv_right _ _ (by omega), Int.ediv_eq_zero_of_lt hr0 hr1]
    omega
  have hm : Int.tmod a U < U ∧ -(U : Int) < Int.tmod a U := by
    by_cases ha : 0 ≤ a
    · have h2 := Int.tmod_lt_of_pos a hU'
      have h3 := Int.tmod_nonneg (U : Int) ha
      omega
    · have h2 : Int.tmod (-a) U < U := Int.tmod_lt_of_pos (-a) hU'
      have h3 := Int.tmod_nonneg (U : Int) (show 0 ≤ -a by omega)
      rw [Int.neg_tmod] at h2 h3
      omega
  generalize Int.tdiv a U = q at *
  generalize Int.tmod a U = r at *
  rw [Int.mul_comm q]
  split
  · refine (key (q - 1) (r + U) ?_ (by omega) (by omega)).symm
    rw [Int.mul_sub]
    omega
  · exact (key q r (by omega) (by omega) (by omega)).symm
theorem tdiv_bound (a : Int) (U : Nat) (_ : 0 < U) (h : -2251799813685248 ≤ a ∧ a ≤ 2251799813685248) : (-2251799813685248 ≤ Int.tdiv a U ∧ Int.tdiv a U ≤ 2251799813685248) ∧ -2251799813685248 ≤ Int.tdiv a U * U ∧ Int.tdiv a U * U ≤ 2251799813685248 := by
  have h1 : (Int.tdiv a U).natAbs ≤ a.natAbs := by rw [Int.natAbs_tdiv]; exact Nat.div_le_self _ _
  have h2 : (Int.tdiv a U * U).natAbs ≤ a.natAbs := by
    rw [Int.natAbs_mul, Int.natAbs_tdiv]
    exact Nat.div_mul_le_self _ _
  omega
set_option maxHeartbeats 1000000 in
theorem told_walk {w : World} (P : Int) (s : Nat) (Ac : Option Addr) (nc cc : Nat) (cs : List Int) (A : Option Addr) (n c : Nat) (xs : List Int) (hcs : ISrc w (.slice Ac nc cc) cs) (hxs : ISrc w (.slice A n c) xs) (hn : nc ≤ n) (h32 : nc ≤ 32) (hs : s ≤ 15)
    (hcb : ∀ x ∈ cs, -16384 ≤ x ∧ x ≤ 16384) (hxb : ∀ j, j < n → isS (xs.getD j 0)) :
    Calls Tryz.prog 61 #[linV P (s : Int) (.slice Ac nc cc), .slice A n c] w fun e w' => e = .returned (iv (tld s cs xs n)) ∧ Only Nix w w' := by
  have hcl := hcs.len
  have hxl := hxs.len
  have hsx := hxs.small
  rw [← hxl] at hsx
  have a0 := (Only.refl Nix w).alloc (.cells #[iv P, iv (s : Int), .slice Ac nc cc] 53)
  have B0 := Box.new w 53 #[iv P, iv (s : Int), .slice Ac nc cc]
  obtain ⟨Wa, hWa⟩ : ∃ Wa, w.alloc (.cells #[iv P, iv (s : Int), .slice Ac nc cc] 53) = Wa := ⟨_, rfl⟩
  rw [hWa] at a0 B0
  have HB := Lib.hid B0
  have HA := Lib.hid a0
  have HC := Lib.hid (hcs.nix a0)
  have HX := Lib.hid (hxs.nix a0)
  have Hcl := Lib.hid hcl
  have Hxl := Lib.hid hxl
  clear hcs hxs a0 B0 hcl hxl
  go_enter Tryz.func61, Tryz.ntmps61
  go_wp2
  go_loopw [5, 6] (fun s5 s6 wr => ∃ i : Nat, i ≤ nc ∧ s6 = iv i ∧ s5 = iv (dotL cs xs n (List.range i)) ∧ Only Nix Wa wr) (fun _ s6 _ => nc - (intOf s6).toNat)
  case atStart => exact ⟨0, Nat.zero_le _, rfl, rfl, Only.refl _ _⟩
  case round =>
    obtain ⟨i, hi, rfl, rfl, hO⟩ := hrel
    have q1 := (HB.out.only hO (fun e => e)).cell 1
    have q2 := (HB.out.only hO (fun e => e)).cell 2
    simp only [List.getElem?_toArray, List.getElem?_cons_zero, List.getElem?_cons_succ] at q1 q2
    have HO := Lib.hid hO
    clear hO
    by_cases hlt : i < nc
    · have hltc : i < cs.length := by rw [← Hcl.out]; exact hlt
      obtain ⟨adc, rfl, qc⟩ := (HC.out.nix HO.out).at_ hltc
      have hxq : n - 1 - i < xs.length := by rw [← Hxl.out]; omega
      obtain ⟨adx, rfl, qx⟩ := (HX.out.nix HO.out).at_ hxq
      have hcv := hcb _ (List.getElem_mem hltc)
      have hxv := hxb (n - 1 - i) (by omega)
      rw [getD_of hxq] at hxv
      unfold isS at hxv
      have hm := mul_bound hcv (x := xs[n - 1 - i]) (by omega)
      have hdb := dotL_bound cs xs n hcb hxb (by omega) (List.range i)
      rw [List.length_range] at hdb
      have hst := dotL_snoc cs xs n (List.range i) i
      rw [← List.range_succ, getD_of hltc, getD_of hxq] at hst
      have HS := Lib.hid hst
      obtain ⟨q, hq⟩ : ∃ q, n - 1 - i = q := ⟨_, rfl⟩
      have hqn : q < n := by omega
      have hqi : (n : Int) - 1 - (i : Int) = (q : Int) := by omega
      have hqni : (q : Int) < (n : Int) := by omega
      have hlti : (i : Int) < (nc : Int) := by omega
      have hw1 : IntKind.i64.wrap ((n : Int) - 1) = (n : Int) - 1 := w64k _ (by omega) (by omega)
      have hw2 : IntKind.i64.wrap (q : Int) = (q : Int) := w64k _ (by omega) (by omega)
      generalize dotL cs xs n (List.range i) = dl at *
      generalize cs[i] = cv at *
      clear hst hltc
      have hqx : xs[n - 1 - i] = xs.getD q 0 := by rw [← getD_of hxq, hq]
      rw [hqx] at qx hxv hm HS
      rw [hq] at qx
      clear hqx hxq
      generalize xs.getD q 0 = y at *
      obtain ⟨pr, hpr⟩ : ∃ pr, cv * y = pr := ⟨_, rfl⟩
      rw [hpr] at hm HS
      have hw3 : IntKind.i64.wrap pr = pr := w64k _ (by omega) (by omega)
      have hw4 : IntKind.i64.wrap (dl + pr) = dl + pr := w64k _ (by omega) (by omega)
      clear hq hcb hxb hdb
      go_wp2_with fail
      go_quiet (fail)
      go_wp2
      go_roundw
      case rel => exact ⟨i + 1, hlt, by go_num, by rw [HS.out], HO.out.drewN _⟩
      case measure => simp [intOf]; omega
    · obtain rfl : i = nc := by omega
      have hdb := dot_bound cs xs n hcb hxb (by rw [← Hcl.out]; exact hn) (by rw [← Hcl.out]; exact h32)
      have hd : dotL cs xs n (List.range i) = dot cs xs n := by unfold dot; rw [Hcl.out]
      rw [hd]
      have hK1 := Nat.two_pow_pos s
      have hK2 := pow_le_of hs
      have hpw : (2 : Int) ^ s = ((2 ^ s : Nat) : Int) := pow_cast s
      have hfl := floor_is (dot cs xs n) (2 ^ s) hK1
      have htb := tdiv_bound (dot cs xs n) (2 ^ s) hK1 hdb
      have HT : Hid (tld s cs xs n = dot cs xs n / ((2 ^ s : Nat) : Int)) := Lib.hid (by unfold tld; rw [hpw])
      generalize dot cs xs n = a at *
      generalize (2 : Nat) ^ s = U at *
      have hU32 : U ≤ 32768 := hK2
      clear hcb hxb hd hK2
      by_cases k1 : a < Int.tdiv a U * U
      · rw [if_pos k1] at hfl
        have HF := Lib.hid hfl
        clear hfl
        go_wp2
        go_ret
        exact ⟨by rw [HT.out, ← HF.out] <;> rfl, HA.out.trans HO.out⟩
      · rw [if_neg k1] at hfl
        have HF := Lib.hid hfl
        clear hfl
        go_wp2
        go_ret
        exact ⟨by rw [HT.out, ← HF.out] <;> rfl, HA.out.trans HO.out⟩
end Go.Proofs.YteklfkpeaadinaaGreatDoor.K
