/-
  The document's Comment.
-/
import Derived.Test.YtphpciglpnbblaaDoorTO
import Derived.Test.YtphpciglpnbblaaDoorTC
namespace Go.Proofs.YtphpciglpnbblaaDoor
open Go.RowKit Go.Shelf

/-- where a comment's name ends -/
def cmE (s : ByteArray) : Int := if isC s = true then eqI s else -1
theorem nb_at (s : ByteArray) (i : Nat) (h : i < s.size) : (nb s)[i]? = some (s.get! i).toNat := by
  rw [List.getElem?_eq_getElem (by rw [nb_len]; exact h), nb_get s i h]
theorem eqI_hit (s : ByteArray) (i : Nat) (h : i < s.size) (hx : (nb s)[i]? = some 61) (hp : ∀ j, j < i → (nb s)[j]? ≠ some 61) : eqI s = i := by
  rcases eqI_spec s with ⟨_, h2⟩ | ⟨k, h1, h2, h3, h4⟩
  · exact absurd rfl (h2 61 (List.mem_of_getElem? hx))
  · rcases Nat.lt_trichotomy k i with hl | rfl | hl
    · exact absurd h3 (hp k hl)
    · exact h1
    · exact absurd hx (h4 i hl)
theorem isC_hit (s : ByteArray) (i : Nat) (h : i < s.size) (hx : (nb s)[i]? = some 61) (hp : ∀ j, j < i → ∃ y, (nb s)[j]? = some y ∧ y ≠ 61 ∧ nmB y = true) : isC s = (decide (0 < i) && isT s) := by
  have he : eqI s = i := eqI_hit s i h hx (fun j hj e => by
    obtain ⟨y, hy, hn, _⟩ := hp j hj
    rw [hy] at e
    injection e with e
    exact hn e)
  have ha : (nb (s.extract 0 i)).all nmB = true := by
    rw [nb_extract, List.drop_zero, List.all_eq_true]
    intro y hy
    obtain ⟨j, hj, e⟩ := List.getElem_of_mem hy
    rw [List.length_take] at hj
    obtain ⟨z, hz, _, hz2⟩ := hp j (by omega)
    rw [List.getElem_take] at e
    rw [List.getElem?_eq_getElem (by omega)] at hz
    injection hz with hz
    rw [← e, hz]
    exact hz2
  have ht : isT (s.extract (i + 1) s.size) = isT s := by
    unfold isT
    rw [Lib.ext_list, Lib.validD_ascii (i + 1) s.data.toList (fun b hb => ?_)]
    obtain ⟨j, hj, e⟩ := List.getElem_of_mem hb
    rw [List.length_take, Array.length_toList] at hj
    rw [List.getElem_take] at e
    have hn : (nb s)[j]? = some b.toNat := by
      unfold nb
      rw [List.getElem?_map, List.getElem?_eq_getElem (by rw [Array.length_toList]; omega), e]
      rfl
    rcases Nat.lt_or_ge j i with hl | hl
    · obtain ⟨y, hy, _, hy2⟩ := hp j hl
      rw [hn] at hy
      injection hy with hy
      unfold nmB at hy2
      rw [← hy] at hy2
      simp at hy2
      omega
    · rw [show j = i by omega, hx] at hn
      injection hn with hn
      omega
  unfold isC
  rw [he, show (i : Int).toNat = i from rfl, ha, ht, Bool.and_true, show decide (0 < (i : Int)) = decide (0 < i) by simp]
theorem isC_bad (s : ByteArray) (i : Nat) (h : i < s.size) (y : Nat) (hx : (nb s)[i]? = some y) (hy : nmB y = false) (hp : ∀ j, j < i → (nb s)[j]? ≠ some 61) (hy2 : y ≠ 61) : isC s = false := by
  rcases eqI_spec s with ⟨h1, _⟩ | ⟨k, h1, h2, h3, h4⟩
  · unfold isC
    rw [h1]
    rfl
  · have hk : i < k := by
      rcases Nat.lt_trichotomy k i with hl | rfl | hl
      · exact absurd h3 (hp k hl)
      · rw [hx] at h3
        injection h3 with h3
        exact absurd h3 hy2
      · exact hl
    have hall : (nb (s.extract 0 k)).all nmB = false := by
      rw [nb_extract, List.drop_zero, List.all_eq_false]
      exact ⟨y, List.mem_of_getElem? (i := i) (by rw [List.getElem?_take, if_pos hk]; exact hx), by rw [hy]; decide⟩
    unfold isC
    rw [h1, show (k : Int).toNat = k from rfl, hall, Bool.and_false, Bool.false_and]
theorem isC_end (s : ByteArray) (hp : ∀ j, j < s.size → (nb s)[j]? ≠ some 61) : isC s = false := by
  rcases eqI_spec s with ⟨h1, _⟩ | ⟨k, h1, h2, h3, h4⟩
  · unfold isC
    rw [h1]
    rfl
  · exact absurd h3 (hp k h2)
def CmRel (w : World) (s : ByteArray) (s3 : Value) (wr : World) : Prop := ∃ i : Nat, i ≤ s.size ∧ s3 = iv i ∧ (∀ j, j < i → ∃ y, (nb s)[j]? = some y ∧ y ≠ 61 ∧ nmB y = true) ∧ w = wr
set_option maxHeartbeats 8000000 in
theorem comment13_any {w : World} (s : ByteArray) (hs : s.size ≤ 1000000) : Calls Tryd.prog 20 #[.string s] w fun e w' => e = .returned (iv (cmE s)) ∧ w = w' := by
  obtain ⟨E, hE⟩ : ∃ E, cmE s = E := ⟨_, rfl⟩
  have HE : Hid (E = if isC s = true then eqI s else -1) := Lib.hid (by rw [← hE]; rfl)
  have HTx := Lib.hid (text13_any (w := w) s hs)
  obtain ⟨T, hT⟩ : ∃ T, isT s = T := ⟨_, rfl⟩
  rw [hT] at HTx
  have HT := Lib.hid hT
  rw [hE]
  clear hE hT
  go_enter Tryd.func20, Tryd.ntmps20
  go_wp2
  go_loopw [3] (fun s3 wr => CmRel w s s3 wr) (fun s3 _ => s.size - (intOf s3).toNat)
  case atStart => exact ⟨0, Nat.zero_le _, rfl, fun j hj => by omega, rfl⟩
  case round =>
    obtain ⟨i, hi, rfl, hp, rfl⟩ := hrel
    have HP := Lib.hid hp
    have HN61 : Hid (∀ j, j < i → (nb s)[j]? ≠ some 61) := Lib.hid (fun j hj e => by
      obtain ⟨y, hy, hn, _⟩ := hp j hj
      rw [hy] at e
      injection e with e
      exact hn e)
    clear hp
    by_cases hlt : i < s.size
    · have hlti : (i : Int) < (s.size : Int) := by omega
      obtain ⟨x, hx⟩ : ∃ x, s.get! i = x := ⟨_, rfl⟩
      have hg0 : ∀ h : i < s.size, s[i]'h = x := fun h => by rw [← hx]; exact (Utf8W.get!_of_lt s i h).symm
      have HX : Hid ((nb s)[i]? = some x.toNat) := Lib.hid (by rw [nb_at s i hlt, hx])
      have hx256 : x.toNat < 256 := x.toNat_lt
      clear hx
      by_cases h61 : x.toNat = 61
      · have hxi : (x.toNat : Int) = 61 := by omega
        have HI := Lib.hid (isC_hit s i hlt (by rw [HX.out, h61]) HP.out)
        have HEq := Lib.hid (eqI_hit s i hlt (by rw [HX.out, h61]) HN61.out)
        by_cases h0 : i = 0
        · subst h0
          have HF : Hid (E = -1) := Lib.hid (by rw [HE.out, HI.out]; rfl)
          rw [show ((0 : Nat) : Int) = 0 from rfl]
          go_wp2
          go_ret
          exact ⟨by rw [HF.out]; rfl, rfl⟩
        · have h0i : ¬ (i : Int) = 0 := by omega
          cases T with
          | true =>
            have HF : Hid (E = (i : Int)) := Lib.hid (by rw [HE.out, HI.out, HT.out, HEq.out, decide_eq_true (by omega)]; rfl)
            go_wp2_with fail
            refine (HTx.out).mono ?_
            rintro e w2 ⟨rfl, rfl⟩
            go_wp2
            go_ret
            exact ⟨by rw [HF.out]; rfl, rfl⟩
          | false =>
            have HF : Hid (E = -1) := Lib.hid (by rw [HE.out, HI.out, HT.out, Bool.and_false]; rfl)
            go_wp2_with fail
            refine (HTx.out).mono ?_
            rintro e w2 ⟨rfl, rfl⟩
            go_wp2
            go_ret
            exact ⟨by rw [HF.out]; rfl, rfl⟩
      · have hxi : ¬ (x.toNat : Int) = 61 := by omega
        by_cases hlo : x.toNat < 32
        · have hloi : (x.toNat : Int) < 32 := by omega
          have HF : Hid (E = -1) := Lib.hid (by rw [HE.out, isC_bad s i hlt _ HX.out (by unfold nmB; rw [decide_eq_false (by omega), Bool.false_and]) HN61.out h61]; rfl)
          go_wp2
          go_ret
          exact ⟨by rw [HF.out]; rfl, rfl⟩
        · have hloi : ¬ (x.toNat : Int) < 32 := by omega
          by_cases hhi : 125 < x.toNat
          · have hhii : (125 : Int) < (x.toNat : Int) := by omega
            have HF : Hid (E = -1) := Lib.hid (by rw [HE.out, isC_bad s i hlt _ HX.out (by unfold nmB; rw [decide_eq_false (show ¬ x.toNat ≤ 125 by omega), Bool.and_false]) HN61.out h61]; rfl)
            go_wp2
            go_ret
            exact ⟨by rw [HF.out]; rfl, rfl⟩
          · have hhii : ¬ (125 : Int) < (x.toNat : Int) := by omega
            have HNx : Hid (∀ j, j < i + 1 → ∃ y, (nb s)[j]? = some y ∧ y ≠ 61 ∧ nmB y = true) := Lib.hid (fun j hj => by
              rcases Nat.lt_succ_iff_lt_or_eq.1 hj with h | rfl
              · exact HP.out j h
              · exact ⟨_, HX.out, h61, by unfold nmB; rw [decide_eq_true (by omega), decide_eq_true (by omega)]; rfl⟩)
            go_wp2
            go_roundw
            case rel => exact ⟨i + 1, hlt, by go_num, HNx.out, rfl⟩
            case measure => simp [intOf]; omega
    · obtain rfl : i = s.size := by omega
      have hlti : ¬ ((s.size : Nat) : Int) < (s.size : Int) := by omega
      have HF : Hid (E = -1) := Lib.hid (by rw [HE.out, isC_end s HN61.out]; rfl)
      go_wp2
      go_ret
      exact ⟨by rw [HF.out]; rfl, rfl⟩
end Go.Proofs.YtphpciglpnbblaaDoor
