/-
  The document's best plan of residuals, and the program's, are the same: plain mathematics.
-/
import Derived.Test.YteklfkpeaadinaaGreatDoorPCG16
import Derived.Test.YteklfkpeaadinaaGreatDoorPCG14
namespace Go.Proofs.YteklfkpeaadinaaGreatDoor
open Go.RowKit Go.Joins

section
variable {m s od o : Nat} {ns : List Nat} {st st2 st2' : Option Pl}
theorem csOk_none {S P k : Nat} {cs : List (Int × Int)} (h : CsOk m S s ns (List.range P) cs) (hk : k < P) : chp m (pt S s ns k) ≠ none := by
  rw [(csOk_get h).2 k hk]
  exact fun e => by cases e
/-- a scan finds one thing alone -/
theorem ScanR.det (h : ScanR m s od ns o st st2) : ∀ st2', ScanR m s od ns o st st2' → st2 = st2' := by
  induction h with
  | over o st h =>
    intro st2' h'
    cases h' with
    | over => rfl
    | part => rfl
    | bad => rfl
    | more _ _ _ cs h2 => omega
  | part o st h =>
    intro st2' h'
    cases h' with
    | over => rfl
    | part => rfl
    | bad => rfl
    | more _ _ _ cs _ h2 => exact absurd h2 h
  | bad o k st hk h =>
    intro st2' h'
    cases h' with
    | over => rfl
    | part => rfl
    | bad => rfl
    | more _ _ _ cs _ _ hc => exact absurd h (csOk_none hc hk)
  | more o st st2 cs ho hp hc hr ih =>
    intro st2' h'
    cases h' with
    | over _ _ h2 => omega
    | part _ _ h2 => exact absurd hp h2
    | bad _ k _ hk h2 => exact absurd h2 (csOk_none hc hk)
    | more _ _ _ cs' _ _ hc' hr' =>
      obtain rfl := csOk_det hc hc'
      exact ih _ hr'
/-- an order that may not be is passed by -/
theorem ScanR.skip (hp : ckP o (ns.length + s) s ≠ 0) (h : ScanR m s od ns (o + 1) st st2) : ScanR m s od ns o st st2 := by
  have hn : ckP (o + 1) (ns.length + s) s ≠ 0 := fun e => hp (ckP_less e (by omega))
  cases h with
  | over => exact .part o st hp
  | part => exact .part o st hp
  | bad => exact .part o st hp
  | more _ _ _ cs _ h2 => exact absurd h2 hn
end
/-- what the statement has as the least so far -/
def lsV (s : Nat) (ns : List Nat) : Option Pl → Int
  | none => -1
  | some x => ((plS s ns x : Nat) : Int)
theorem better_no {s : Nat} {ns : List Nat} {st : Option Pl} {x : Pl} (h : ¬ (lsV s ns st < 0 ∨ ((plS s ns x : Nat) : Int) < lsV s ns st)) : betterP s ns st x = st := by
  cases st with
  | none => exact absurd (.inl (by show (-1 : Int) < 0; decide)) h
  | some b =>
    unfold betterP
    simp only
    rw [if_neg (fun h2 => h (.inr (by show ((plS s ns x : Nat) : Int) < ((plS s ns b : Nat) : Int); omega)))]
theorem better_yes {s : Nat} {ns : List Nat} {st : Option Pl} {x : Pl} (h : lsV s ns st < 0 ∨ ((plS s ns x : Nat) : Int) < lsV s ns st) : betterP s ns st x = some x := by
  cases st with
  | none => rfl
  | some b =>
    unfold betterP
    simp only
    refine if_pos ?_
    rcases h with h | h
    · have : lsV s ns (some b) = ((plS s ns b : Nat) : Int) := rfl
      rw [this] at h
      omega
    · have : lsV s ns (some b) = ((plS s ns b : Nat) : Int) := rfl
      rw [this] at h
      omega
theorem bestE_ok {od : Int} {k : Nat} {l : List Int} (h0 : 0 ≤ od) (h15 : od ≤ 15) (hB : ckB ((l.length : Int) + (k : Int)) k = 0) (hp : ckP 0 (l.length + k) k = 0) : ((∀ x ∈ l, isR x) → bestE od k l = 0) ∧ (¬ (∀ x ∈ l, isR x) → bestE od k l = 10) := by
  have ho : ¬ (od < 0 ∨ 15 < od) := by omega
  have e : bestE od k l = @ite _ (∀ x ∈ l, isR x) (Classical.propDecidable _) 0 10 := by
    unfold bestE
    rw [if_neg ho, hB, Int.toNat_natCast, hp]
    simp
  rw [e]
  exact ⟨fun h => if_pos h, fun h => if_neg h⟩
/-- the head of an order within a block that may be -/
theorem head_order {m o k : Nat} {l : List Int} (hm : m ≤ 1) (ho : o ≤ 15) (hB : ckB ((l.length : Int) + (k : Int)) k = 0) : ckH m o ((l.length : Int) + (k : Int)) k = ckP o (l.length + k) k := by
  unfold ckH
  have h : ¬ ((m : Int) < 0 ∨ (2 : Int) ≤ m ∨ (o : Int) < 0 ∨ (15 : Int) < o) := by omega
  have e : ((l.length : Int) + (k : Int)).toNat = l.length + k := by omega
  rw [hB, if_neg h, e, Int.toNat_natCast, Int.toNat_natCast]
  simp
theorem ints_nix5 {w : World} {v1 v2 : Value} {xs : List Int} (h1 : ISrc w v1 xs) (h2 : ISrc w v2 xs) :
    Calls Tryz.prog 16 #[v1, v2] w fun e w' => e = .returned (.bool true) ∧ Only Nix w w' :=
  (ints_yes h1 h2).mono fun _ _ h => ⟨h.1, by obtain ⟨m, hm⟩ := h.2; rw [hm]; exact (Only.refl _ _).drewN m⟩
/-- the statement's best plan -/
def BestS (W : World) (b : Nat) : Option Pl → Prop
  | none => Box W b 54 #[iv 0, iv 0, .slice none 0 0, .slice none 0 0]
  | some x => ∃ g2 g3 c2 c3, Box W b 54 #[iv x.1, iv x.2.1, .slice (some ⟨g2, 0, none⟩) x.2.2.length c2, .slice (some ⟨g3, 0, none⟩) x.2.2.length c3] ∧
      ISrc W (.slice (some ⟨g2, 0, none⟩) x.2.2.length c2) (x.2.2.map (·.1)) ∧ ISrc W (.slice (some ⟨g3, 0, none⟩) x.2.2.length c3) (x.2.2.map (·.2)) ∧ b < g2 ∧ b < g3
theorem BestS.nix {W W' : World} {b : Nat} {st : Option Pl} (h : BestS W b st) (ho : Only Nix W W') : BestS W' b st := by
  cases st with
  | none => exact Box.only h ho (fun e => e)
  | some x =>
    obtain ⟨g2, g3, c2, c3, h1, h2, h3, h4, h5⟩ := h
    exact ⟨g2, g3, c2, c3, h1.only ho (fun e => e), h2.nix ho, h3.nix ho, h4, h5⟩
theorem BestS.lt {W : World} {b : Nat} {st : Option Pl} (h : BestS W b st) : b < W.heap.size := by
  cases st with
  | none => exact Box.lt h
  | some x =>
    obtain ⟨g2, g3, c2, c3, h1, _⟩ := h
    exact h1.lt
def BoP (V : World) (b13 od s : Nat) (ns : List Nat) (s12 s14 : Value) (W : World) : Prop :=
  ∃ (m : Nat) (cur : Option Pl), m ≤ 2 ∧ s14 = iv m ∧ s12 = iv (lsV s ns cur) ∧ BestS W b13 cur ∧ Only (Just b13) V W ∧ (m = 0 → cur = none) ∧ (m = 1 → ScanR 0 s od ns 0 none cur ∧ cur ≠ none) ∧
    (m = 2 → (∃ st1, ScanR 0 s od ns 0 none st1 ∧ ScanR 1 s od ns 0 st1 cur) ∧ cur ≠ none)
def BiP (V : World) (b13 od s m : Nat) (ns : List Nat) (st : Option Pl) (s12 s15 : Value) (W : World) : Prop :=
  ∃ (o : Nat) (cur : Option Pl), o ≤ od + 1 ∧ s15 = iv o ∧ s12 = iv (lsV s ns cur) ∧ BestS W b13 cur ∧ Only (Just b13) V W ∧ (∀ fin, ScanR m s od ns o cur fin → ScanR m s od ns 0 st fin) ∧ (cur ≠ none ∨ (m = 0 ∧ o = 0))
theorem BestS.box {W : World} {b : Nat} {st : Option Pl} (h : BestS W b st) : ∃ x0 x1 x2 x3, Box W b 54 #[x0, x1, x2, x3] := by
  cases st with
  | none => exact ⟨_, _, _, _, h⟩
  | some x =>
    obtain ⟨g2, g3, c2, c3, h1, _⟩ := h
    exact ⟨_, _, _, _, h1⟩
theorem plS_szZ {m o s : Nat} {l : List Int} {cs : List (Int × Int)} (h : cs.length = 2 ^ o) : 6 + szZ m ((l.length + s) / 2 ^ o) s (l.map fd) (List.range (2 ^ o)) cs = plS s (l.map fd) (m, o, cs) := by
  unfold plS
  rw [szZ_range m _ s _ _ cs h, List.length_map]
theorem isP_small {m : Nat} {p wd : Int} (hm : m ≤ 1) (h : isP m p wd) : (-9223372036854775808 ≤ p ∧ p ≤ 9223372036854775807) ∧ (-9223372036854775808 ≤ wd ∧ wd ≤ 9223372036854775807) := by
  rcases h with ⟨h1, h2, h3⟩ | ⟨h1, h2, h3⟩ <;> omega
theorem csOk_isP {m S s P : Nat} {ns : List Nat} {cs : List (Int × Int)} (h : CsOk m S s ns (List.range P) cs) : ∀ c ∈ cs, isP m c.1 c.2 := by
  intro c hc
  obtain ⟨hl, hg⟩ := csOk_get h
  obtain ⟨k, hk, rfl⟩ := List.mem_iff_getElem.1 hc
  have h2 := chp_isP (hg k (by omega))
  simpa [List.getD_eq_getElem?_getD, hk] using h2
end Go.Proofs.YteklfkpeaadinaaGreatDoor
