/-
  bytes.Trim with one byte, nought: is anything left.
-/
import Derived.Test.YtighdjbeddcckaaDoorWA
import Derived.Test.YtighdjbeddcckaaDoorIR
namespace Go.Proofs.YtighdjbeddcckaaDoor
open Go.RowKit Go.Shelf

theorem cutA_0 (A : Option Addr) (c : Nat) : cutA A c 0 = A := by
  unfold cutA
  split
  · rfl
  · cases A <;> rfl
theorem all_nought {bs : List Nat} {m0 k0 m : Nat} (hm : RT bs m0) (hk : LT (bs.take m0) k0) (h : m + k0 = m0) : decide (0 < m) = decide (¬ ∀ x ∈ bs, x = 0) := by
  have hl : (bs.take m0).length = m0 := by rw [List.length_take]; have := hm.1; omega
  have hg : ∀ j, j < m0 → (bs.take m0).getD j 0 = bs.getD j 0 := fun j hj => by
    rw [List.getD_eq_getElem?_getD, List.getElem?_take_of_lt hj, List.getD_eq_getElem?_getD]
  rw [decide_eq_decide]
  constructor
  · intro h0 hall
    rcases hm.2.2 with e | e
    · omega
    · have hlt : m0 - 1 < bs.length := by have := hm.1; omega
      refine e ?_
      rw [List.getD_eq_getElem?_getD, List.getElem?_eq_getElem hlt]
      exact hall _ (List.getElem_mem hlt)
  · intro hn
    refine Nat.pos_of_ne_zero fun hz => hn fun x hx => ?_
    obtain ⟨j, hj, rfl⟩ := List.getElem_of_mem hx
    have : bs.getD j 0 = 0 := by
      by_cases h1 : j < m0
      · rw [← hg j h1]
        exact hk.2.1 j (by omega)
      · exact hm.2.1 j (by omega) hj
    rw [List.getD_eq_getElem?_getD, List.getElem?_eq_getElem hj] at this
    exact this
def LenP (k0 m0 : Nat) (v : Value) : Prop := ∃ B m d, v = .slice B m d ∧ m + k0 = m0
set_option maxRecDepth 100000 in
set_option maxHeartbeats 4000000 in
theorem trim_any {w : World} {A : Option Addr} {n c : Nat} {bs : List Nat} (hs : CSrc w (.slice A n c) bs) :
    Calls Tryd.prog 24 #[.slice A n c, .string ⟨#[0]⟩] w fun e w' => (∃ B m d, e = .returned (.slice B m d) ∧ decide (0 < m) = decide (¬ ∀ x ∈ bs, x = 0)) ∧ Only Nix w w' := by
  have hn := hs.src.len
  have hsm := hs.src.small
  by_cases hz : n = 0
  · subst hz
    have hb : bs = [] := List.length_eq_zero_iff.1 hn.symm
    subst hb
    clear hs hn hsm
    go_enter Tryd.func24, Tryd.ntmps24
    go_wp2
    go_ret
    exact ⟨⟨none, 0, 0, rfl, by simp⟩, Only.refl _ _⟩
  · obtain ⟨m0, hm⟩ := rt_ex bs
    obtain ⟨k0, hk⟩ := lt_ex (bs.take m0)
    have HR : Hid (∀ u, Only Nix w u → Calls Tryd.prog 28 #[.slice A n c, .int .u8 0] u fun e w' => e = .returned (.slice A m0 c) ∧ Only Nix u w') := Lib.hid (fun u hu => trimRight_any (hs.nix hu) hm)
    have HL : Hid (∀ u, Only Nix w u → Calls Tryd.prog 27 #[.slice A m0 c, .int .u8 0] u fun e w' => (∃ B m d, e = .returned (.slice B m d) ∧ m + k0 = m0) ∧ Only Nix u w') := Lib.hid (fun u hu => by
      have h := csrc_win (hs.nix hu) 0 m0 (by rw [hn, Nat.zero_add]; exact hm.1)
      rw [cutA_0, Nat.sub_zero, List.drop_zero] at h
      exact trimLeft_any h hk)
    have HF : Hid (∀ m, m + k0 = m0 → decide (0 < m) = decide (¬ ∀ x ∈ bs, x = 0)) := Lib.hid (fun m h => all_nought hm hk h)
    have hni : ¬ (n : Int) = 0 := by omega
    clear hs hn hm hk
    go_enter Tryd.func24, Tryd.ntmps24
    go_wp2_with fail
    have fr_R : ∀ j s, j < 8 → (([some 21, some 22, some 23, some 24, some 25, some 26, some 27, some 4] : List (Option Nat)).all fun d => d != some s) = true → ([some 21, some 22, some 23, some 24, some 25, some 26, some 27, some 4] : List (Option Nat)).getD j none ≠ some s := by
      intro j s hj ha e
      rw [List.getD_eq_getElem?_getD, List.getElem?_eq_getElem (by exact hj), Option.getD_some] at e
      have := List.all_eq_true.1 ha _ (List.getElem_mem (by exact hj))
      rw [e] at this
      simp at this
    refine region_tel (by kernel_rfl) (fun k0 => ([some 21, some 22, some 23, some 24, some 25, some 26, some 27, some 4] : List (Option Nat)).getD k0 none) (PL [eqP (.slice A n c), eqP (.string ⟨#[0]⟩), eqP (.int .u8 0), eqP (.slice A m0 c), eqP (.string ⟨#[0]⟩), eqP (.int .u8 0), (fun v _ => LenP k0 m0 v), (fun v _ => LenP k0 m0 v)]) (fun _ _ => True) (fun _ u => Only Nix w u) 42 8 rfl (by kernel_rfl) (by kernel_rfl) rfl (by kernel_rfl) (by kernel_rfl) (stab_all ⟨fun _ _ _ h _ => h, fun _ _ _ h _ => h, fun _ _ _ h _ => h, fun _ _ _ h _ => h, fun _ _ _ h _ => h, fun _ _ _ h _ => h, fun _ _ _ h _ => h, fun _ _ _ h _ => h, trivial⟩) ((Only.refl _ _).drew) ?stepsR (fun vs => [(21, vs 0), (22, vs 1), (23, vs 2), (24, vs 3), (25, vs 4), (26, vs 5), (27, vs 6), (4, vs 7)]) (fun vs => rfl) ?doneR
    case stepsR =>
      refine ⟨?_, ?_, ?_, ?_, ?_, ?_, ?_, ?_, trivial⟩
      · intro L vs A' u hW hL0 hnd K' hK
        have hS := hW.wi.s
        have r0 : A'.tmps[0]? = some (.slice A n c) := (hW.out 0 (fun j hj => fr_R j 0 hj (by kernel_rfl))).trans rfl
        go_simp
        exact hK _ _ (by first | rfl | (show _ = _; simp)) trivial (hS)
      · intro L vs A' u hW hL0 hnd K' hK
        have hS := hW.wi.s
        have r1 : A'.tmps[1]? = some (.string ⟨#[0]⟩) := (hW.out 1 (fun j hj => fr_R j 1 hj (by kernel_rfl))).trans rfl
        go_simp
        exact hK _ _ (by first | rfl | (show _ = _; simp)) trivial (hS)
      · intro L vs A' u hW hL0 hnd K' hK
        have hS := hW.wi.s
        have r22 : A'.tmps[22]? = some (.string ⟨#[0]⟩) := by
          obtain ⟨x, e, h⟩ := hW.tel 1 22 (by decide) (hnd 1 (by kernel_rfl)) rfl
          rw [e]; exact congrArg some h
        go_simp
        exact hK _ _ (by first | rfl | (show _ = _; simp)) trivial (hS)
      · intro L vs A' u hW hL0 hnd K' hK
        have hS := hW.wi.s
        have r21 : A'.tmps[21]? = some (.slice A n c) := by
          obtain ⟨x, e, h⟩ := hW.tel 0 21 (by decide) (hnd 0 (by kernel_rfl)) rfl
          rw [e]; exact congrArg some h
        have r23 : A'.tmps[23]? = some (.int .u8 0) := by
          obtain ⟨x, e, h⟩ := hW.tel 2 23 (by decide) (hnd 2 (by kernel_rfl)) rfl
          rw [e]; exact congrArg some h
        have HCL := Lib.hid (HR.out u hS)
        go_simp
        refine (HCL.out).mono ?_
        rintro _ u' ⟨rfl, ho2⟩
        exact hK _ _ rfl trivial (hS.trans ho2)
      · intro L vs A' u hW hL0 hnd K' hK
        have hS := hW.wi.s
        have r1 : A'.tmps[1]? = some (.string ⟨#[0]⟩) := (hW.out 1 (fun j hj => fr_R j 1 hj (by kernel_rfl))).trans rfl
        go_simp
        exact hK _ _ (by first | rfl | (show _ = _; simp)) trivial (hS)
      · intro L vs A' u hW hL0 hnd K' hK
        have hS := hW.wi.s
        have r25 : A'.tmps[25]? = some (.string ⟨#[0]⟩) := by
          obtain ⟨x, e, h⟩ := hW.tel 4 25 (by decide) (hnd 4 (by kernel_rfl)) rfl
          rw [e]; exact congrArg some h
        go_simp
        exact hK _ _ (by first | rfl | (show _ = _; simp)) trivial (hS)
      · intro L vs A' u hW hL0 hnd K' hK
        have hS := hW.wi.s
        have r24 : A'.tmps[24]? = some (.slice A m0 c) := by
          obtain ⟨x, e, h⟩ := hW.tel 3 24 (by decide) (hnd 3 (by kernel_rfl)) rfl
          rw [e]; exact congrArg some h
        have r26 : A'.tmps[26]? = some (.int .u8 0) := by
          obtain ⟨x, e, h⟩ := hW.tel 5 26 (by decide) (hnd 5 (by kernel_rfl)) rfl
          rw [e]; exact congrArg some h
        have HCL := Lib.hid (HL.out u hS)
        go_simp
        refine (HCL.out).mono ?_
        rintro _ u' ⟨⟨B, m, d, rfl, hmk⟩, ho2⟩
        exact hK _ _ ⟨B, m, d, rfl, hmk⟩ trivial (hS.trans ho2)
      · intro L vs A' u hW hL0 hnd K' hK
        have hS := hW.wi.s
        obtain ⟨x, e27, h27⟩ := hW.tel 6 27 (by decide) (hnd 6 (by kernel_rfl)) rfl
        have h27' : LenP k0 m0 x := h27
        have r27 : A'.tmps[27]? = some x := e27
        clear e27 h27
        go_simp
        exact hK _ _ h27' trivial (hS)
    case doneR =>
      intro L vs u9 hS hP hall
      have e0 : vs 0 = .slice A n c := hP 0 (by decide)
      have e1 : vs 1 = .string ⟨#[0]⟩ := hP 1 (by decide)
      have e2 : vs 2 = .int .u8 0 := hP 2 (by decide)
      have e3 : vs 3 = .slice A m0 c := hP 3 (by decide)
      have e4 : vs 4 = .string ⟨#[0]⟩ := hP 4 (by decide)
      have e5 : vs 5 = .int .u8 0 := hP 5 (by decide)
      obtain ⟨B, m, d, e7, hmk⟩ := (show LenP k0 m0 (vs 7) from hP 7 (by decide))
      obtain ⟨V6, e6⟩ : ∃ x, vs 6 = x := ⟨_, rfl⟩
      simp only [putV, List.foldl_cons, List.foldl_nil, List.setIfInBounds_toArray, List.set_cons_zero, List.set_cons_succ, e6, e7, e0, e1, e2, e3, e4, e5]
      clear e6 e7 e0 e1 e2 e3 e4 e5 hP hall fr_R
      have HOz := Lib.hid hS
      have HFm := Lib.hid (HF.out m hmk)
      clear hS
      go_wp2
      go_ret
      exact ⟨⟨_, _, _, rfl, HFm.out⟩, HOz.out⟩
end Go.Proofs.YtighdjbeddcckaaDoor
