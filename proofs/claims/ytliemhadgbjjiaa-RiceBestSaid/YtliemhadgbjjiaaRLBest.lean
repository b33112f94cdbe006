/-
  RiceBest, walked.
-/
import Derived.Test.YtliemhadgbjjiaaRLeastM
import Derived.Test.YtliemhadgbjjiaaQLeast
import Derived.Test.YtliemhadgbjjiaaRAwake
import Derived.Test.YtliemhadgbjjiaaQCheck
namespace Go.Proofs.Ytliemhadgbjjiaa
open Go.RowKit Go.Joins

section
variable {m s od o : Nat} {ns : List Nat} {st st2 st2' : Option Pl}
theorem csOk_none {S P k : Nat} {cs : List (Int × Int)} (h : CsOk m S s ns (List.range P) cs) (hk : k < P) : chp m (pt S s ns k) ≠ none := by
  rw [(csOk_get h).2 k hk]
  exact fun e => by cases e
/-- a scan finds one thing alone -/
theorem ScanR.det (h : ScanR m s od ns o st st2) : ∀ st2', ScanR m s od ns o st st2' → st2 = st2' := by
  induction h with
  | over o st h =>
    intro st2' h'
    cases h' with
    | over => rfl
    | part => rfl
    | bad => rfl
    | more _ _ _ cs h2 => omega
  | part o st h =>
    intro st2' h'
    cases h' with
    | over => rfl
    | part => rfl
    | bad => rfl
    | more _ _ _ cs _ h2 => exact absurd h2 h
  | bad o k st hk h =>
    intro st2' h'
    cases h' with
    | over => rfl
    | part => rfl
    | bad => rfl
    | more _ _ _ cs _ _ hc => exact absurd h (csOk_none hc hk)
  | more o st st2 cs ho hp hc hr ih =>
    intro st2' h'
    cases h' with
    | over _ _ h2 => omega
    | part _ _ h2 => exact absurd hp h2
    | bad _ k _ hk h2 => exact absurd h2 (csOk_none hc hk)
    | more _ _ _ cs' _ _ hc' hr' =>
      obtain rfl := csOk_det hc hc'
      exact ih _ hr'
/-- an order that may not be is passed by -/
theorem ScanR.skip (hp : ckP o (ns.length + s) s ≠ 0) (h : ScanR m s od ns (o + 1) st st2) : ScanR m s od ns o st st2 := by
  have hn : ckP (o + 1) (ns.length + s) s ≠ 0 := fun e => hp (ckP_less e (by omega))
  cases h with
  | over => exact .part o st hp
  | part => exact .part o st hp
  | bad => exact .part o st hp
  | more _ _ _ cs _ h2 => exact absurd h2 hn
end
/-- what the statement has as the least so far -/
def lsV (s : Nat) (ns : List Nat) : Option Pl → Int
  | none => -1
  | some x => ((plS s ns x : Nat) : Int)
theorem better_no {s : Nat} {ns : List Nat} {st : Option Pl} {x : Pl} (h : ¬ (lsV s ns st < 0 ∨ ((plS s ns x : Nat) : Int) < lsV s ns st)) : betterP s ns st x = st := by
  cases st with
  | none => exact absurd (.inl (by show (-1 : Int) < 0; decide)) h
  | some b =>
    unfold betterP
    simp only
    rw [if_neg (fun h2 => h (.inr (by show ((plS s ns x : Nat) : Int) < ((plS s ns b : Nat) : Int); omega)))]
theorem better_yes {s : Nat} {ns : List Nat} {st : Option Pl} {x : Pl} (h : lsV s ns st < 0 ∨ ((plS s ns x : Nat) : Int) < lsV s ns st) : betterP s ns st x = some x := by
  cases st with
  | none => rfl
  | some b =>
    unfold betterP
    simp only
    refine if_pos ?_
    rcases h with h | h
    · have : lsV s ns (some b) = ((plS s ns b : Nat) : Int) := rfl
      rw [this] at h
      omega
    · have : lsV s ns (some b) = ((plS s ns b : Nat) : Int) := rfl
      rw [this] at h
      omega
/-- what is wrong, as the statement says it -/
theorem ckB_val (b s : Int) : ckB b s = 0 ∨ ckB b s = 1 := by
  unfold ckB
  split
  · exact .inr rfl
  · exact .inl rfl
theorem ckB_s {b s : Int} (h : ckB b s = 0) : 0 ≤ s ∧ s ≤ 32 := by
  unfold ckB at h
  by_cases hc : b < 1 ∨ 65535 < b ∨ s < 0 ∨ 32 < s
  · rw [if_pos hc] at h; omega
  · omega
theorem ckH_00 (b s : Int) : ckH 0 0 b s = if ckB b s ≠ 0 then 1 else ckP 0 b.toNat s.toNat := by
  unfold ckH
  have h : ¬ ((0 : Int) < 0 ∨ (2 : Int) ≤ 0 ∨ (0 : Int) < 0 ∨ (15 : Int) < 0) := by omega
  rw [if_neg h]
  rfl
theorem bestE_head {od s : Int} {l : List Int} (h0 : 0 ≤ od) (h15 : od ≤ 15) (h : ckH 0 0 ((l.length : Int) + s) s ≠ 0) : bestE od s l = ckH 0 0 ((l.length : Int) + s) s := by
  rw [ckH_00] at h ⊢
  have ho : ¬ (od < 0 ∨ 15 < od) := by omega
  unfold bestE
  rw [if_neg ho]
  rcases ckB_val ((l.length : Int) + s) s with hB | hB
  · have hs := ckB_s hB
    have e : ((l.length : Int) + s).toNat = l.length + s.toNat := by omega
    rw [hB, e] at h ⊢
    simp only [ne_eq, not_true_eq_false, if_false] at h ⊢
    rw [if_pos h]
  · rw [hB]
    simp
/-- what is right -/
theorem head_ok {s : Int} {l : List Int} (h : ckH 0 0 ((l.length : Int) + s) s = 0) : ∃ k : Nat, s = (k : Int) ∧ k ≤ 32 ∧ 0 < l.length ∧ ckB ((l.length : Int) + s) s = 0 ∧ ckP 0 (l.length + k) k = 0 := by
  rw [ckH_00] at h
  rcases ckB_val ((l.length : Int) + s) s with hB | hB
  · have hs := ckB_s hB
    obtain ⟨k, rfl⟩ := Int.eq_ofNat_of_zero_le hs.1
    have e : ((l.length : Int) + (k : Int)).toNat = l.length + k := by omega
    rw [hB, e, Int.toNat_natCast] at h
    simp only [ne_eq, not_true_eq_false, if_false] at h
    refine ⟨k, rfl, by omega, ?_, hB, h⟩
    have h2 := h
    unfold ckP at h2
    by_cases hc : (l.length + k) % 2 ^ 0 ≠ 0 ∨ (l.length + k) / 2 ^ 0 ≤ k
    · rw [if_pos hc] at h2; omega
    · rw [Nat.pow_zero, Nat.mod_one, Nat.div_one] at hc
      omega
  · rw [hB] at h
    simp at h
theorem bestE_ok {od : Int} {k : Nat} {l : List Int} (h0 : 0 ≤ od) (h15 : od ≤ 15) (hB : ckB ((l.length : Int) + (k : Int)) k = 0) (hp : ckP 0 (l.length + k) k = 0) : ((∀ x ∈ l, isR x) → bestE od k l = 0) ∧ (¬ (∀ x ∈ l, isR x) → bestE od k l = 10) := by
  have ho : ¬ (od < 0 ∨ 15 < od) := by omega
  have e : bestE od k l = @ite _ (∀ x ∈ l, isR x) (Classical.propDecidable _) 0 10 := by
    unfold bestE
    rw [if_neg ho, hB, Int.toNat_natCast, hp]
    simp
  rw [e]
  exact ⟨fun h => if_pos h, fun h => if_neg h⟩
/-- the head of an order within a block that may be -/
theorem head_order {m o k : Nat} {l : List Int} (hm : m ≤ 1) (ho : o ≤ 15) (hB : ckB ((l.length : Int) + (k : Int)) k = 0) : ckH m o ((l.length : Int) + (k : Int)) k = ckP o (l.length + k) k := by
  unfold ckH
  have h : ¬ ((m : Int) < 0 ∨ (2 : Int) ≤ m ∨ (o : Int) < 0 ∨ (15 : Int) < o) := by omega
  have e : ((l.length : Int) + (k : Int)).toNat = l.length + k := by omega
  rw [hB, if_neg h, e, Int.toNat_natCast, Int.toNat_natCast]
  simp
theorem ints_nix5 {w : World} {v1 v2 : Value} {xs : List Int} (h1 : ISrc w v1 xs) (h2 : ISrc w v2 xs) :
    Calls Try.prog 24 #[v1, v2] w fun e w' => e = .returned (.bool true) ∧ Only Nix w w' :=
  (ints_yes h1 h2).mono fun _ _ h => ⟨h.1, by obtain ⟨m, hm⟩ := h.2; rw [hm]; exact (Only.refl _ _).drewN m⟩
theorem isrc_blk {w : World} {v : Value} {xs : List Int} (h : ISrc w v xs) : ∀ ad n c, v = .slice (some ad) n c → 0 < n → ad.block < w.heap.size := by
  intro ad n c e hn
  subst e
  have hl := h.len
  obtain ⟨ad', e, hx⟩ := h.at_ (k := 0) (by omega)
  injection e with e
  subst e
  have := World.block_lt_of_cell? w _ hx
  rwa [add_block] at this
/-- the statement's best plan -/
def BestS (W : World) (b : Nat) : Option Pl → Prop
  | none => Box W b 32 #[iv 0, iv 0, .slice none 0 0, .slice none 0 0]
  | some x => ∃ g2 g3 c2 c3, Box W b 32 #[iv x.1, iv x.2.1, .slice (some ⟨g2, 0, none⟩) x.2.2.length c2, .slice (some ⟨g3, 0, none⟩) x.2.2.length c3] ∧
      ISrc W (.slice (some ⟨g2, 0, none⟩) x.2.2.length c2) (x.2.2.map (·.1)) ∧ ISrc W (.slice (some ⟨g3, 0, none⟩) x.2.2.length c3) (x.2.2.map (·.2)) ∧ b < g2 ∧ b < g3
theorem BestS.nix {W W' : World} {b : Nat} {st : Option Pl} (h : BestS W b st) (ho : Only Nix W W') : BestS W' b st := by
  cases st with
  | none => exact Box.only h ho (fun e => e)
  | some x =>
    obtain ⟨g2, g3, c2, c3, h1, h2, h3, h4, h5⟩ := h
    exact ⟨g2, g3, c2, c3, h1.only ho (fun e => e), h2.nix ho, h3.nix ho, h4, h5⟩
theorem BestS.lt {W : World} {b : Nat} {st : Option Pl} (h : BestS W b st) : b < W.heap.size := by
  cases st with
  | none => exact Box.lt h
  | some x =>
    obtain ⟨g2, g3, c2, c3, h1, _⟩ := h
    exact h1.lt

def BoP (V : World) (b13 od s : Nat) (ns : List Nat) (s12 s14 : Value) (W : World) : Prop :=
  ∃ (m : Nat) (cur : Option Pl), m ≤ 2 ∧ s14 = iv m ∧ s12 = iv (lsV s ns cur) ∧ BestS W b13 cur ∧ Only (Just b13) V W ∧ (m = 0 → cur = none) ∧ (m = 1 → ScanR 0 s od ns 0 none cur ∧ cur ≠ none) ∧
    (m = 2 → (∃ st1, ScanR 0 s od ns 0 none st1 ∧ ScanR 1 s od ns 0 st1 cur) ∧ cur ≠ none)
def BiP (V : World) (b13 od s m : Nat) (ns : List Nat) (st : Option Pl) (s12 s15 : Value) (W : World) : Prop :=
  ∃ (o : Nat) (cur : Option Pl), o ≤ od + 1 ∧ s15 = iv o ∧ s12 = iv (lsV s ns cur) ∧ BestS W b13 cur ∧ Only (Just b13) V W ∧ (∀ fin, ScanR m s od ns o cur fin → ScanR m s od ns 0 st fin) ∧ (cur ≠ none ∨ (m = 0 ∧ o = 0))
theorem BestS.box {W : World} {b : Nat} {st : Option Pl} (h : BestS W b st) : ∃ x0 x1 x2 x3, Box W b 32 #[x0, x1, x2, x3] := by
  cases st with
  | none => exact ⟨_, _, _, _, h⟩
  | some x =>
    obtain ⟨g2, g3, c2, c3, h1, _⟩ := h
    exact ⟨_, _, _, _, h1⟩
theorem plS_szZ {m o s : Nat} {l : List Int} {cs : List (Int × Int)} (h : cs.length = 2 ^ o) : 6 + szZ m ((l.length + s) / 2 ^ o) s (l.map fd) (List.range (2 ^ o)) cs = plS s (l.map fd) (m, o, cs) := by
  unfold plS
  rw [szZ_range m _ s _ _ cs h, List.length_map]
theorem isP_small {m : Nat} {p wd : Int} (hm : m ≤ 1) (h : isP m p wd) : (-9223372036854775808 ≤ p ∧ p ≤ 9223372036854775807) ∧ (-9223372036854775808 ≤ wd ∧ wd ≤ 9223372036854775807) := by
  rcases h with ⟨h1, h2, h3⟩ | ⟨h1, h2, h3⟩ <;> omega
theorem csOk_isP {m S s P : Nat} {ns : List Nat} {cs : List (Int × Int)} (h : CsOk m S s ns (List.range P) cs) : ∀ c ∈ cs, isP m c.1 c.2 := by
  intro c hc
  obtain ⟨hl, hg⟩ := csOk_get h
  obtain ⟨k, hk, rfl⟩ := List.mem_iff_getElem.1 hc
  have h2 := chp_isP (hg k (by omega))
  simpa [List.getD_eq_getElem?_getD, hk] using h2

def WroP (w : World) (l : List Int) (s7 s8 : Value) (wr : World) : Prop :=
  ∃ (j : Nat) (b : Bool), j ≤ l.length ∧ s8 = iv j ∧ s7 = .bool b ∧ (b = false → ∀ x ∈ l.take j, Sm x) ∧ (b = true → ∃ x ∈ l, ¬ isR x) ∧ w = wr

set_option maxRecDepth 100000 in
set_option maxHeartbeats 8000000 in
theorem riceBest_walk {w : World} (od s : Int) (A : Option Addr) (n c : Nat) (l : List Int) (hs0 : -9223372036854775808 ≤ s) (hl : ISrc w (.slice A n c) l) :
    Calls Try.prog 6 #[iv od, iv s, .slice A n c] w fun e w' => e = .returned (.bool true) ∧ Only Nix w w' := by
  have hll := hl.len
  have hsl := hl.small
  rw [← hll] at hsl
  have HL := Lib.hid hl
  have Hll := Lib.hid hll
  have HAw := Lib.hid (fun (u : World) => awake5 u)
  clear hl hll
  by_cases g0 : 40 < n
  · have g0i : (40 : Int) < (n : Int) := by omega
    have HW := Lib.hid (HAw.out w)
    clear HAw
    go_enter Try.func6, Try.ntmps6
    go_wp2_with fail
    refine (HW.out).mono ?_
    rintro e w1 ⟨rfl, o1⟩
    have HO := Lib.hid o1
    clear o1 HW
    go_wp2
    go_ret
    exact ⟨rfl, HO.out⟩
  · have g0i : ¬ (40 : Int) < (n : Int) := by omega
    by_cases g1 : 100 < s
    · have HW := Lib.hid (HAw.out w)
      clear HAw
      go_enter Try.func6, Try.ntmps6
      go_wp2_with fail
      refine (HW.out).mono ?_
      rintro e w1 ⟨rfl, o1⟩
      have HO := Lib.hid o1
      clear o1 HW
      go_wp2
      go_ret
      exact ⟨rfl, HO.out⟩
    · go_enter Try.func6, Try.ntmps6
      go_wp2
      go_loopw [7, 8] (fun s7 s8 wr => WroP w l s7 s8 wr) (fun _ s8 _ => n - (intOf s8).toNat)
      case atStart => exact ⟨0, false, Nat.zero_le _, rfl, rfl, fun _ => by simp, (fun e => by cases e), rfl⟩
      case round =>
        obtain ⟨j, b, hj, rfl, rfl, hbf, hbt, rfl⟩ := hrel
        rw [← Hll.out] at hj
        have HBf := Lib.hid hbf
        have HBt := Lib.hid hbt
        clear hbf hbt
        by_cases hlt : j < n
        · have hltx : j < l.length := by rw [← Hll.out]; exact hlt
          obtain ⟨ad, rfl, hx⟩ := HL.out.at_ hltx
          have hft := HL.out.fits _ (List.getElem_mem hltx)
          have hlti : (j : Int) < (n : Int) := by omega
          have HM := Lib.hid (List.getElem_mem hltx)
          have HE := Lib.hid (List.take_succ_eq_append_getElem hltx)
          generalize l[j] = x at *
          clear hltx
          cases b with
          | true =>
            clear HAw
            go_wp2
            go_roundw
            case rel => exact ⟨j + 1, true, by rw [← Hll.out]; omega, by go_num, rfl, (fun e => by cases e), fun _ => HBt.out rfl, rfl⟩
            case measure => simp [intOf]; omega
          | false =>
            by_cases k1 : x ≤ -2147483648
            · clear HAw
              have hR : ¬ isR x := fun h => by unfold isR at h; omega
              have HR := Lib.hid hR
              clear hR
              go_wp2
              go_roundw
              case rel => exact ⟨j + 1, true, by rw [← Hll.out]; omega, by go_num, rfl, (fun e => by cases e), fun _ => ⟨x, HM.out, HR.out⟩, rfl⟩
              case measure => simp [intOf]; omega
            · by_cases k2 : 2147483648 ≤ x
              · clear HAw
                have hR : ¬ isR x := fun h => by unfold isR at h; omega
                have HR := Lib.hid hR
                clear hR
                go_wp2
                go_roundw
                case rel => exact ⟨j + 1, true, by rw [← Hll.out]; omega, by go_num, rfl, (fun e => by cases e), fun _ => ⟨x, HM.out, HR.out⟩, rfl⟩
                case measure => simp [intOf]; omega
              · by_cases k3 : 2000 < x
                · have HW := Lib.hid (HAw.out w)
                  clear HAw
                  go_wp2_with fail
                  refine (HW.out).mono ?_
                  rintro e w1 ⟨rfl, o1⟩
                  have HO := Lib.hid o1
                  clear o1 HW
                  go_wp2
                  go_ret
                  exact ⟨rfl, HO.out⟩
                · by_cases k4 : x < -2000
                  · have HW := Lib.hid (HAw.out w)
                    clear HAw
                    go_wp2_with fail
                    refine (HW.out).mono ?_
                    rintro e w1 ⟨rfl, o1⟩
                    have HO := Lib.hid o1
                    clear o1 HW
                    go_wp2
                    go_ret
                    exact ⟨rfl, HO.out⟩
                  · clear HAw
                    have HS : Hid (Sm x) := Lib.hid ⟨by omega, by omega⟩
                    go_wp2
                    go_roundw
                    case rel =>
                      refine ⟨j + 1, false, by rw [← Hll.out]; omega, by go_num, rfl, fun _ y hy => ?_, (fun e => by cases e), rfl⟩
                      rw [HE.out] at hy
                      rcases List.mem_append.1 hy with hy | hy
                      · exact HBf.out rfl y hy
                      · simp at hy; subst hy; exact HS.out
                    case measure => simp [intOf]; omega
        · have hjn : j = n := by omega
          have hsm : b = false → ∀ x ∈ l, Sm x := fun e x hx => HBf.out e x (by rw [List.take_of_length_le (by rw [← Hll.out]; omega)]; exact hx)
          have HSm := Lib.hid hsm
          clear hsm HBf
          have hlti : ¬ (j : Int) < (n : Int) := by omega
          have HBe := Lib.hid (best_any od s A n c l hs0 (by omega) HL.out)
          go_wp2_with fail
          refine (HBe.out).mono ?_
          rintro e w1 hB
          clear HBe hjn hj hlt hlti
          by_cases hod : od < 0 ∨ 15 < od
          · have hE : bestE od s l = 10 := by unfold bestE; rw [if_pos hod]
            rcases hB with ⟨_, rfl, o1⟩ | ⟨h, _⟩
            · rw [hE]
              have HO1 := Lib.hid (o1.alloc (.cells #[iv 0, iv 0, .slice none 0 0, .slice none 0 0] 24))
              have HW := Lib.hid (HAw.out (w1.alloc (.cells #[iv 0, iv 0, .slice none 0 0, .slice none 0 0] 24)))
              clear HAw o1 hE HBt HSm
              rcases hod with hod | hod
              · go_wp2_with fail
                refine (HW.out).mono ?_
                rintro e w2 ⟨rfl, o2⟩
                have HO := Lib.hid (HO1.out.trans o2)
                clear o2 HW
                go_wp2
                go_ret
                exact ⟨rfl, HO.out⟩
              · have hod0 : ¬ od < 0 := by omega
                go_wp2_with fail
                refine (HW.out).mono ?_
                rintro e w2 ⟨rfl, o2⟩
                have HO := Lib.hid (HO1.out.trans o2)
                clear o2 HW
                go_wp2
                go_ret
                exact ⟨rfl, HO.out⟩
            · rw [hE] at h; exact absurd h (by decide)
          · have hod0 : ¬ od < 0 := by omega
            have hod15 : ¬ 15 < od := by omega
            have hodA : 0 ≤ od := by omega
            have hodB : od ≤ 15 := by omega
            clear hod
            have HHd := fun (u : World) => Lib.hid (headRef_any u 0 0 ((n : Int) + s) s)
            by_cases hH : ckH 0 0 ((l.length : Int) + s) s = 0
            · obtain ⟨sk, rfl, h32, h1l, hcB, hcP⟩ := head_ok hH
              obtain ⟨odn, rfl⟩ := Int.eq_ofNat_of_zero_le hodA
              have hok := bestE_ok hodA hodB hcB hcP
              cases b with
              | true =>
                have hnR : ¬ ∀ x ∈ l, isR x := fun h => by
                  obtain ⟨x, hx, hr⟩ := HBt.out rfl
                  exact hr (h x hx)
                have hE := hok.2 hnR
                rcases hB with ⟨_, rfl, o1⟩ | ⟨h, _⟩
                · rw [hE]
                  have HO1 := Lib.hid (o1.alloc (.cells #[iv 0, iv 0, .slice none 0 0, .slice none 0 0] 24))
                  have HW := Lib.hid (HAw.out (w1.alloc (.cells #[iv 0, iv 0, .slice none 0 0, .slice none 0 0] 24)))
                  have HH := HHd (w1.alloc (.cells #[iv 0, iv 0, .slice none 0 0, .slice none 0 0] 24))
                  rw [Hll.out, hH, ← Hll.out] at HH
                  clear HAw o1 hE HBt HSm HHd hH hcB hcP hok hnR h1l
                  go_wp2_with fail
                  refine (HH.out).mono ?_
                  rintro e w2 ⟨rfl, rfl⟩
                  go_wp2_with fail
                  refine (HW.out).mono ?_
                  rintro e w2 ⟨rfl, o2⟩
                  have HO := Lib.hid (HO1.out.trans o2)
                  clear o2 HW
                  go_wp2
                  go_ret
                  exact ⟨rfl, HO.out⟩
                · rw [hE] at h; exact absurd h (by decide)
              | false =>
                have hSm := HSm.out rfl
                have hE := hok.1 (fun x hx => (hSm x hx).isR)
                rcases hB with ⟨h, _⟩ | ⟨_, v, rfl, hLR⟩
                · exact absurd hE h
                · obtain ⟨m, o, A1, A2, n1, n2, c1, c2, ps, bs, st1, st2, he, hps, hbs, hnone, hsome, hblk, hsc0, hsc1, o1⟩ := hLR
                  injection he with he
                  subst he
                  rw [Int.toNat_natCast, Int.toNat_natCast] at hsc0 hsc1
                  obtain ⟨ad, rfl, _⟩ := HL.out.at_ h1l
                  have a1 := (Only.refl Nix w1).alloc (.cells #[iv m, iv o, .slice A1 n1 c1, .slice A2 n2 c2] 24)
                  have HH := HHd (w1.alloc (.cells #[iv m, iv o, .slice A1 n1 c1, .slice A2 n2 c2] 24))
                  rw [Hll.out, hH, ← Hll.out] at HH
                  have B9 := (Box.new w1 24 #[iv m, iv o, .slice A1 n1 c1, .slice A2 n2 c2]).alloc (.cells #[iv 0, iv 0, .slice none 0 0, .slice none 0 0] 32)
                  have B13 := Box.new (w1.alloc (.cells #[iv m, iv o, .slice A1 n1 c1, .slice A2 n2 c2] 24)) 32 #[iv 0, iv 0, .slice none 0 0, .slice none 0 0]
                  rw [World.size_alloc] at B13
                  have a2 := a1.alloc (.cells #[iv 0, iv 0, .slice none 0 0, .slice none 0 0] 32)
                  have HbP := Lib.hid (isrc_blk hps)
                  have HbB := Lib.hid (isrc_blk hbs)
                  have HSo := Lib.hid hsome
                  have H0 := Lib.hid hsc0
                  have H1 := Lib.hid hsc1
                  have HS := Lib.hid hSm
                  have HPs := Lib.hid (hps.nix a2)
                  have HBs := Lib.hid (hbs.nix a2)
                  have HB9 := Lib.hid B9
                  have HB13 := Lib.hid B13
                  have HV := Lib.hid (o1.trans a2)
                  have HcB := Lib.hid hcB
                  have HcP := Lib.hid hcP
                  have Hw1 := Lib.hid o1.size
                  clear hps hbs hnone hsome hblk hsc0 hsc1 o1 a1 a2 B9 B13 hSm hE hok HBt HSm hH hcB hcP
                  go_wp2_with fail
                  refine (HH.out).mono ?_
                  rintro e w2 ⟨rfl, rfl⟩
                  clear HH
                  go_wp2
                  generalize (w1.alloc (.cells #[iv m, iv o, .slice A1 n1 c1, .slice A2 n2 c2] 24)).alloc (.cells #[iv 0, iv 0, .slice none 0 0, .slice none 0 0] 32) = V at *
                  have HHo : Hid (∀ (u : World) (m' o' : Nat), m' ≤ 1 → o' ≤ 15 → Calls Try.prog 28 #[iv m', iv o', iv ((n : Int) + (sk : Int)), iv sk] u fun e w' => e = .returned (iv (ckP o' (l.length + sk) sk)) ∧ u = w') := Lib.hid (fun u m' o' hm ho => by
                    have h := headRef_any u m' o' ((n : Int) + (sk : Int)) sk
                    rw [Hll.out, head_order hm ho HcB.out] at h
                    rw [Hll.out]
                    exact h)
                  clear HHd
                  go_loopw [12, 14] (fun s12 s14 wr => BoP V (w1.heap.size + 1) odn sk (l.map fd) s12 s14 wr) (fun _ s14 _ => 2 - (intOf s14).toNat)
                  case atStart => exact ⟨0, none, by omega, rfl, rfl, HB13.out, Only.refl _ _, fun _ => rfl, (fun e => by omega), (fun e => by omega)⟩
                  case round =>
                    obtain ⟨mm, st, hmm, rfl, rfl, hbs, hO, hm0, hm1, hm2⟩ := hrel
                    by_cases hlt : mm < 2
                    · have hlti : (mm : Int) < 2 := by omega
                      have Hst := Lib.hid (And.intro hbs hO)
                      have HM0 := Lib.hid hm0
                      have HM1 := Lib.hid hm1
                      have hmm1 : mm ≤ 1 := by omega
                      clear hbs hO hm0 hm1 hm2
                      obtain ⟨ls0, hls0⟩ : ∃ ls0, lsV sk (l.map fd) st = ls0 := ⟨_, rfl⟩
                      have Hls0 := Lib.hid hls0
                      rw [hls0]
                      clear hls0
                      go_wp2
                      go_loopw [12, 15] (fun s12 s15 wy => BiP V (w1.heap.size + 1) odn sk mm (l.map fd) st s12 s15 wy) (fun _ s15 _ => odn + 1 - (intOf s15).toNat)
                      case atStart =>
                        refine ⟨0, st, Nat.zero_le _, rfl, by rw [Hls0.out], Hst.out.1, Hst.out.2, fun fin h => h, ?_⟩
                        rcases Nat.eq_zero_or_pos mm with h | h
                        · exact .inr ⟨h, rfl⟩
                        · exact .inl (HM1.out (by omega)).2
                      case round =>
                        obtain ⟨oo, cur, hoo, rfl, rfl, hbs, hO, hscan, hsome2⟩ := hrel
                        have HScan := Lib.hid hscan
                        have HSm2 := Lib.hid hsome2
                        have HBS := Lib.hid hbs
                        have HO := Lib.hid hO
                        clear hscan hsome2 hbs hO
                        by_cases hle : oo ≤ odn
                        · have hlei : (oo : Int) ≤ (odn : Int) := by omega
                          have HH := Lib.hid (HHo.out wr mm oo hmm1 (by omega))
                          obtain ⟨lc, hlc⟩ : ∃ lc, lsV sk (l.map fd) cur = lc := ⟨_, rfl⟩
                          have Hlc := Lib.hid hlc
                          rw [hlc]
                          clear hlc
                          by_cases hp : ckP oo (l.length + sk) sk = 0
                          · obtain ⟨i1, i2⟩ := ckP_zero hp
                            have HW3 := Lib.hid (HV.out.then (HO.out) (fun i e => by rw [e]; have := Hw1.out; exact .inr (by omega)))
                            have HLe := Lib.hid (leastRef_any (w := wr) mm oo sk (2 ^ oo) ((l.length + sk) / 2 ^ oo) ad n c l hmm1 (by omega) h32 rfl i1 i2 (HL.out.nix HW3.out) (by omega) HS.out)
                            rw [hp] at HH
                            have HPz : Hid (ckP oo ((l.map fd).length + sk) sk = 0) := Lib.hid (by rw [List.length_map]; exact hp)
                            have hbl := HBS.out.lt
                            clear hp i1 i2
                            go_wp2_with fail
                            refine (HH.out).mono ?_
                            rintro e w3 ⟨rfl, rfl⟩
                            clear HH
                            go_wp2_with fail
                            refine (HLe.out).mono ?_
                            rintro e w4 ⟨cs, v2, v3, rfl, hcs, hr2, hr3, o4⟩
                            obtain ⟨hcl, hcg⟩ := csOk_get hcs
                            have hpos : 0 < cs.length := by rw [hcl]; exact Nat.two_pow_pos oo
                            obtain ⟨g2, k2, rfl, hg2⟩ := row_form hr2 hpos
                            obtain ⟨g3, k3, rfl, hg3⟩ := row_form hr3 hpos
                            have hpl := plS_szZ (m := mm) (s := sk) (l := l) hcl
                            rw [hpl]
                            have hcs' : CsOk mm (((l.map fd).length + sk) / 2 ^ oo) sk (l.map fd) (List.range (2 ^ oo)) cs := by rw [List.length_map]; exact hcs
                            have hip := csOk_isP hcs
                            have hlen100 : cs.length ≤ 100000000 := by
                              rw [hcl]
                              exact Nat.le_trans (Nat.pow_le_pow_right (by decide) (show oo ≤ 15 by omega)) (by decide)
                            have hI2 := isrc_row hr2 (xs := cs.map (·.1)) (by rw [List.map_map]; rfl) (fun x hx => by
                              obtain ⟨c0, hc0, rfl⟩ := List.mem_map.1 hx
                              exact (isP_small hmm1 (hip c0 hc0)).1) hlen100
                            have hI3 := isrc_row hr3 (xs := cs.map (·.2)) (by rw [List.map_map]; rfl) (fun x hx => by
                              obtain ⟨c0, hc0, rfl⟩ := List.mem_map.1 hx
                              exact (isP_small hmm1 (hip c0 hc0)).2) hlen100
                            have HCs := Lib.hid hcs'
                            have HMore : Hid (∀ fin, ScanR mm sk odn (l.map fd) (oo + 1) (betterP sk (l.map fd) cur (mm, oo, cs)) fin → ScanR mm sk odn (l.map fd) 0 st fin) := Lib.hid (fun fin h => HScan.out fin (.more oo cur fin cs hle HPz.out hcs' h))
                            have HI2 := Lib.hid hI2
                            have HI3 := Lib.hid hI3
                            have HO4 := Lib.hid (HO.out.trans o4.nix)
                            have HBS4 := Lib.hid (HBS.out.nix o4)
                            obtain ⟨pl, hpl2⟩ : ∃ pl, plS sk (l.map fd) (mm, oo, cs) = pl := ⟨_, rfl⟩
                            have Hpl := Lib.hid hpl2
                            rw [hpl2]
                            obtain ⟨q, hq⟩ : ∃ q, cs.length = q := ⟨_, rfl⟩
                            have Hq := Lib.hid hq
                            rw [hq] at HI2 HI3 ⊢
                            have hb4 := HBS4.out.lt
                            clear hcs hr2 hr3 o4 hcl hcg hpos hpl hcs' hip hlen100 hI2 hI3 HLe hpl2 hq HBS HO
                            by_cases hbt : lc < 0 ∨ (pl : Int) < lc
                            · have hY := better_yes (s := sk) (ns := l.map fd) (st := cur) (x := (mm, oo, cs)) (by rw [Hpl.out, Hlc.out]; exact hbt)
                              rw [hY] at HMore
                              clear hY
                              obtain ⟨x0, x1, x2, x3, hbx⟩ := HBS4.out.box
                              have qc0 := hbx.cell 0
                              have qc1 := hbx.cell 1
                              have qc2 := hbx.cell 2
                              have qc3 := hbx.cell 3
                              simp only [List.getElem?_toArray, List.getElem?_cons_zero, List.getElem?_cons_succ] at qc0 qc1 qc2 qc3
                              have qf0 := hbx.frozen 0
                              have qf1 := hbx.frozen 1
                              have qf2 := hbx.frozen 2
                              have qf3 := hbx.frozen 3
                              have Hbx2 := Lib.hid hbx
                              have HFin : Hid (∀ W5, Box W5 (w1.heap.size + 1) 32 #[x0, x1, x2, x3] → Only (Just (w1.heap.size + 1)) V W5 → ISrc W5 (.slice (some ⟨g2, 0, none⟩) q k2) (cs.map (·.1)) → ISrc W5 (.slice (some ⟨g3, 0, none⟩) q k3) (cs.map (·.2)) →
                                  BestS ((((W5.setCell ⟨w1.heap.size + 1, 0, none⟩ (iv mm)).setCell ⟨w1.heap.size + 1, 1, none⟩ (iv oo)).setCell ⟨w1.heap.size + 1, 2, none⟩ (.slice (some ⟨g2, 0, none⟩) q k2)).setCell ⟨w1.heap.size + 1, 3, none⟩ (.slice (some ⟨g3, 0, none⟩) q k3)) (w1.heap.size + 1) (some (mm, oo, cs)) ∧
                                  Only (Just (w1.heap.size + 1)) V ((((W5.setCell ⟨w1.heap.size + 1, 0, none⟩ (iv mm)).setCell ⟨w1.heap.size + 1, 1, none⟩ (iv oo)).setCell ⟨w1.heap.size + 1, 2, none⟩ (.slice (some ⟨g2, 0, none⟩) q k2)).setCell ⟨w1.heap.size + 1, 3, none⟩ (.slice (some ⟨g3, 0, none⟩) q k3))) := Lib.hid (fun W5 hb5 ho5 hi2 hi3 => by
                                have hp := (((hb5.put 0 (iv mm)).put 1 (iv oo)).put 2 (.slice (some ⟨g2, 0, none⟩) q k2)).put 3 (.slice (some ⟨g3, 0, none⟩) q k3)
                                have oJ : Only (Just (w1.heap.size + 1)) W5 ((((W5.setCell ⟨w1.heap.size + 1, 0, none⟩ (iv mm)).setCell ⟨w1.heap.size + 1, 1, none⟩ (iv oo)).setCell ⟨w1.heap.size + 1, 2, none⟩ (.slice (some ⟨g2, 0, none⟩) q k2)).setCell ⟨w1.heap.size + 1, 3, none⟩ (.slice (some ⟨g3, 0, none⟩) q k3)) :=
                                  ((((Only.refl (Just (w1.heap.size + 1)) W5).setCell (p := ⟨w1.heap.size + 1, 0, none⟩) (.inl rfl) _).setCell (p := ⟨w1.heap.size + 1, 1, none⟩) (.inl rfl) _).setCell (p := ⟨w1.heap.size + 1, 2, none⟩) (.inl rfl) _).setCell (p := ⟨w1.heap.size + 1, 3, none⟩) (.inl rfl) _
                                have hl : cs.length = q := Hq.out
                                refine ⟨⟨g2, g3, k2, k3, ?_, ?_, ?_, by omega, by omega⟩, ho5.trans oJ⟩
                                · rw [hl]
                                  exact hp
                                · rw [hl]
                                  exact hi2.only oJ (fun i _ e a n c ea h0 => by cases e; injection ea with ea _ _; injection ea with ea; rw [← ea]; show g2 ≠ w1.heap.size + 1; omega)
                                · rw [hl]
                                  exact hi3.only oJ (fun i _ e a n c ea h0 => by cases e; injection ea with ea _ _; injection ea with ea; rw [← ea]; show g3 ≠ w1.heap.size + 1; omega))
                              clear hbx
                              by_cases h0 : lc < 0
                              · clear hbt
                                go_wp2
                                have hF := HFin.out _ Hbx2.out HO4.out HI2.out HI3.out
                                go_roundw
                                case rel => exact ⟨oo + 1, some (mm, oo, cs), by omega, by go_num, by rw [← Hpl.out]; rfl, hF.1.nix ((Only.refl Nix _).alloc _), hF.2.alloc _, HMore.out, .inl (by simp)⟩
                                case measure => simp [intOf]; omega
                              · have h1 : (pl : Int) < lc := by omega
                                clear hbt
                                go_wp2
                                have hF := HFin.out _ Hbx2.out HO4.out HI2.out HI3.out
                                go_roundw
                                case rel => exact ⟨oo + 1, some (mm, oo, cs), by omega, by go_num, by rw [← Hpl.out]; rfl, hF.1.nix ((Only.refl Nix _).alloc _), hF.2.alloc _, HMore.out, .inl (by simp)⟩
                                case measure => simp [intOf]; omega
                            · have hNn := better_no (s := sk) (ns := l.map fd) (st := cur) (x := (mm, oo, cs)) (by rw [Hpl.out, Hlc.out]; exact hbt)
                              rw [hNn] at HMore
                              have h0 : ¬ lc < 0 := fun h => hbt (.inl h)
                              have h1 : ¬ (pl : Int) < lc := fun h => hbt (.inr h)
                              have Hcur : Hid (cur ≠ none) := Lib.hid (fun e => by rw [e] at Hlc; have : (-1 : Int) = lc := Hlc.out; omega)
                              clear hNn hbt
                              go_wp2
                              go_roundw
                              case rel =>
                                refine ⟨oo + 1, cur, by omega, by go_num, by rw [Hlc.out], ?_, ?_, HMore.out, .inl Hcur.out⟩
                                · exact HBS4.out.nix ((Only.refl Nix _).alloc _)
                                · exact HO4.out.alloc _
                              case measure => simp [intOf]; omega
                          · have hp' : ckP oo ((l.map fd).length + sk) sk ≠ 0 := by rw [List.length_map]; exact hp
                            have HP := Lib.hid hp'
                            obtain ⟨h, hh⟩ : ∃ h, ckP oo (l.length + sk) sk = h := ⟨_, rfl⟩
                            rw [hh] at HH hp
                            have hne : ¬ h = 0 := hp
                            have Hh0 : Hid (oo = 0 → False) := Lib.hid (fun e => by subst e; exact hp (by rw [← hh]; exact HcP.out))
                            clear hh hp' hp
                            go_wp2_with fail
                            refine (HH.out).mono ?_
                            rintro e w3 ⟨rfl, rfl⟩
                            clear HH
                            go_wp2
                            go_roundw
                            case rel => exact ⟨oo + 1, cur, by omega, by go_num, by rw [Hlc.out], HBS.out, HO.out, fun fin h => HScan.out fin (ScanR.skip HP.out h), .inl (HSm2.out.elim id (fun h => (Hh0.out h.2).elim))⟩
                            case measure => simp [intOf]; omega
                        · have hlei : ¬ (oo : Int) ≤ (odn : Int) := by omega
                          have hcur : cur ≠ none := HSm2.out.elim id (fun h => by omega)
                          have hdone : ScanR mm sk odn (l.map fd) 0 st cur := HScan.out cur (.over oo cur (by omega))
                          have HD := Lib.hid (And.intro hcur hdone)
                          clear hcur hdone
                          go_wp2
                          go_roundw
                          case rel =>
                            refine ⟨mm + 1, cur, by omega, by go_num, rfl, HBS.out, HO.out, (fun e => by omega), fun e => ?_, fun e => ?_⟩
                            · obtain rfl : mm = 0 := by omega
                              rw [HM0.out rfl] at HD
                              exact ⟨HD.out.2, HD.out.1⟩
                            · obtain rfl : mm = 1 := by omega
                              exact ⟨⟨st, (HM1.out rfl).1, HD.out.2⟩, HD.out.1⟩
                          case measure => simp [intOf]; omega
                    · obtain rfl : mm = 2 := by omega
                      obtain ⟨⟨sa, hsa, hsb⟩, hne⟩ := hm2 rfl
                      obtain rfl := hsa.det _ H0.out
                      obtain rfl := hsb.det _ H1.out
                      obtain ⟨x, rfl⟩ : ∃ x, st = some x := by
                        cases st with
                        | none => exact absurd rfl hne
                        | some x => exact ⟨x, rfl⟩
                      obtain ⟨rfl, rfl, rfl, rfl, _⟩ := HSo.out x rfl
                      obtain ⟨g2, g3, k2, k3, hbx, hI2, hI3, hg2, hg3⟩ := hbs
                      have hval : ValidP sk odn (l.map fd) x := ScanR.valid H1.out (by decide) (ScanR.valid H0.out (by decide) (fun y e => by cases e)) x rfl
                      have hR : ∀ y ∈ l, isR y := fun y hy => (HS.out y hy).isR
                      have hfine := hval.fine (by omega) h32 (by rw [← Hll.out]; omega) hR
                      have hsE := hfine.sizeE
                      have hsN := hfine.sizeN
                      have hplS : sizeN x.1 x.2.1 (x.2.2.map (·.1)) (x.2.2.map (·.2)) sk l = plS sk (l.map fd) x := by
                        rw [hsN]
                        unfold plS
                        rw [List.length_map]
                      have hP9 := HB9.out.only hO (fun e => by have e' : w1.heap.size = w1.heap.size + 1 := e; omega)
                      have hPsW := HPs.out.only hO (fun i _ e a n c ea h0 => by
                        cases e
                        have := HbP.out a n c ea h0
                        show a.block ≠ w1.heap.size + 1
                        omega)
                      have hBsW := HBs.out.only hO (fun i _ e a n c ea h0 => by
                        cases e
                        have := HbB.out a n c ea h0
                        show a.block ≠ w1.heap.size + 1
                        omega)
                      have HW3 := Lib.hid (HV.out.then hO (fun i e => by rw [e]; have := Hw1.out; exact .inr (by omega)))
                      have HSz := sizeR_any (w := wr) x.1 x.2.1 sk n c (some ad) A1 A2 n1 n2 c1 c2 (x.2.2.map (·.1)) (x.2.2.map (·.2)) l hs0 (by omega) (HL.out.nix HW3.out) hPsW hBsW
                      rw [hsE, hplS] at HSz
                      have HSz := Lib.hid HSz
                      have hlsv : lsV sk (l.map fd) (some x) = ((plS sk (l.map fd) x : Nat) : Int) := rfl
                      rw [hlsv]
                      generalize plS sk (l.map fd) x = pl at *
                      have d0 := hP9.cell 0
                      have d1 := hP9.cell 1
                      have d2 := hP9.cell 2
                      have d3 := hP9.cell 3
                      have e0 := hbx.cell 0
                      have e1 := hbx.cell 1
                      have e2 := hbx.cell 2
                      have e3 := hbx.cell 3
                      simp only [List.getElem?_toArray, List.getElem?_cons_zero, List.getElem?_cons_succ] at d0 d1 d2 d3 e0 e1 e2 e3
                      have HI2 := Lib.hid hI2
                      have HI3 := Lib.hid hI3
                      have HPw := Lib.hid hPsW
                      have HBw := Lib.hid hBsW
                      clear hbx hI2 hI3 hval hR hfine hsE hsN hplS hP9 hPsW hBsW hlsv hO hsa hsb hne hm0 hm1 hm2 HHo
                      go_wp2_with fail
                      refine (HSz.out).mono ?_
                      rintro e w5 ⟨rfl, o5⟩
                      have HW5 := Lib.hid (HW3.out.trans o5)
                      have f0 := cell_keep o5 d0
                      have f1 := cell_keep o5 d1
                      have f2 := cell_keep o5 d2
                      have f3 := cell_keep o5 d3
                      have q0 := cell_keep o5 e0
                      have q1 := cell_keep o5 e1
                      have q2 := cell_keep o5 e2
                      have q3 := cell_keep o5 e3
                      have HIn := Lib.hid (ints_nix5 (HPw.out.nix o5) (HI2.out.nix o5))
                      have HPb := Lib.hid (HBw.out.nix o5)
                      have HI3b := Lib.hid (HI3.out.nix o5)
                      clear o5 HSz d0 d1 d2 d3 e0 e1 e2 e3
                      go_wp2_with fail
                      refine (HIn.out).mono ?_
                      rintro e w6 ⟨rfl, o6⟩
                      have HW6 := Lib.hid (HW5.out.trans o6)
                      have d3 := cell_keep o6 f3
                      have e3 := cell_keep o6 q3
                      have HIn2 := Lib.hid (ints_nix5 (HPb.out.nix o6) (HI3b.out.nix o6))
                      clear o6 HIn f0 f1 f2 f3 q0 q1 q2 q3
                      go_wp2_with fail
                      refine (HIn2.out).mono ?_
                      rintro e w7 ⟨rfl, o7⟩
                      have HW7 := Lib.hid (HW6.out.trans o7)
                      have HWk := Lib.hid (HAw.out w7)
                      clear o7 HIn2 HAw d3 e3
                      go_wp2_with fail
                      refine (HWk.out).mono ?_
                      rintro e w8 ⟨rfl, o8⟩
                      have HO8 := Lib.hid (HW7.out.trans o8)
                      clear o8 HWk
                      go_wp2
                      go_ret
                      exact ⟨rfl, HO8.out⟩
            · have hE := bestE_head hodA hodB hH
              rcases hB with ⟨_, rfl, o1⟩ | ⟨h, _⟩
              · rw [hE]
                have HO1 := Lib.hid (o1.alloc (.cells #[iv 0, iv 0, .slice none 0 0, .slice none 0 0] 24))
                have HW := Lib.hid (HAw.out (w1.alloc (.cells #[iv 0, iv 0, .slice none 0 0, .slice none 0 0] 24)))
                have HH := HHd (w1.alloc (.cells #[iv 0, iv 0, .slice none 0 0, .slice none 0 0] 24))
                rw [Hll.out] at HH
                generalize ckH 0 0 ((l.length : Int) + s) s = h at *
                rw [← Hll.out] at HH
                have hh : ¬ h = 0 := hH
                clear HAw o1 hE HBt HSm HHd hH
                go_wp2_with fail
                refine (HH.out).mono ?_
                rintro e w2 ⟨rfl, rfl⟩
                cases b with
                | true =>
                  go_wp2_with fail
                  refine (HW.out).mono ?_
                  rintro e w2 ⟨rfl, o2⟩
                  have HO := Lib.hid (HO1.out.trans o2)
                  clear o2 HW
                  go_wp2
                  go_ret
                  exact ⟨rfl, HO.out⟩
                | false =>
                  go_wp2_with fail
                  refine (HW.out).mono ?_
                  rintro e w2 ⟨rfl, o2⟩
                  have HO := Lib.hid (HO1.out.trans o2)
                  clear o2 HW
                  go_wp2
                  go_ret
                  exact ⟨rfl, HO.out⟩
              · rw [hE] at h; exact absurd h hH
end Go.Proofs.Ytliemhadgbjjiaa
