/-
  Plain mathematics: what blocks are written as is read as the blocks, and what was read is written as the bytes that were read.
-/
import Derived.Test.YtighdjbeddcckaaVRR
import Derived.Test.YtighdjbeddcckaaVN
namespace Go.Proofs.Ytighdjbeddcckaa

theorem drop_one (x : Nat) (l : List Nat) : ([x] ++ l).drop 1 = l := rfl
theorem bkB_len (b : Bool) (k : Bk) : (bkB b k).length = 4 + k.2.length := by simp [bkB, be_len]; omega
theorem wrN_more (l : List Bk) (n m : Nat) (h : n ≤ m) : ∃ r, wrN l m = wrN l n ++ r := by
  induction m with
  | zero => obtain rfl : n = 0 := by omega
            exact ⟨[], by simp⟩
  | succ m ih =>
    rcases Nat.lt_or_ge m n with h1 | h1
    · obtain rfl : n = m + 1 := by omega
      exact ⟨[], by simp⟩
    · obtain ⟨r, hr⟩ := ih h1
      exact ⟨r ++ bkB (decide (m + 1 = l.length)) (gb l m), by rw [wrN_succ, hr, List.append_assoc]⟩
/-- the bytes from the j-th block on -/
theorem wr_at (l : List Bk) {j : Nat} (hj : j < l.length) : ∃ r, wrN l l.length = wrN l j ++ (bkB (decide (j + 1 = l.length)) (gb l j) ++ r) ∧ (j + 1 = l.length → r = []) ∧ r.length = tot l l.length - tot l (j + 1) := by
  obtain ⟨r, hr⟩ := wrN_more l (j + 1) l.length hj
  have hl := congrArg List.length hr
  rw [List.length_append, wrN_len, wrN_len] at hl
  refine ⟨r, by rw [hr, wrN_succ, List.append_assoc], fun e => ?_, by omega⟩
  rw [e] at hl
  exact List.eq_nil_of_length_eq_zero (by omega)
theorem wr_lt (l : List Bk) (hg : goodN l l.length) (hd : ∀ k ∈ l, ∀ x ∈ k.2, x < 256) : ∀ x ∈ wrN l l.length, x < 256 := by
  have key : ∀ n, n ≤ l.length → ∀ x ∈ wrN l n, x < 256 := by
    intro n
    induction n with
    | zero => intro _ x hx; simp [wrN] at hx
    | succ n ih =>
      intro hn x hx
      rw [wrN_succ] at hx
      rcases List.mem_append.1 hx with h | h
      · exact ih (by omega) x h
      · have hgn := hg n (by omega)
        unfold goodT at hgn
        unfold bkB at h
        rcases List.mem_append.1 h with h | h
        · rw [List.mem_singleton.1 h]
          split <;> omega
        · rcases List.mem_append.1 h with h | h
          · exact be_lt _ _ _ h
          · rw [gb_eq (by omega)] at h
            exact hd _ (List.getElem_mem _) x h
  exact key _ (Nat.le_refl _)
/-- a block's bytes are read as the block -/
theorem bk_read {b : Bool} {k : Bk} (hg : goodT k.1) (hs : k.2.length < 16777216) (r : List Nat) : fsE (bkB b k ++ r) = 0 ∧ szK (bkB b k ++ r) = k.2.length ∧ fsK (bkB b k ++ r) = k ∧ (128 ≤ (bkB b k ++ r).getD 0 0 ↔ b = true) := by
  obtain ⟨t, d⟩ := k
  unfold goodT at hg
  simp only at hg hs
  obtain ⟨T, rfl⟩ := Int.eq_ofNat_of_zero_le hg.1
  have hT : T < 127 := by omega
  have hsz : szK (bkB b ((T : Int), d) ++ r) = d.length := by
    unfold szK bkB
    simp only [List.append_assoc]
    rw [drop_one, List.take_left' (be_len _ _)]
    exact vl_be 3 _ (by rw [show (2 : Nat) ^ (8 * 3) = 16777216 by decide]; exact hs)
  have h0 : (bkB b ((T : Int), d) ++ r).getD 0 0 = (if b then 128 else 0) + T := by
    unfold bkB
    simp
  have hty : tyK (bkB b ((T : Int), d) ++ r) = T := by
    unfold tyK
    rw [h0]
    cases b
    · simp; omega
    · simp; omega
  have hl : (bkB b ((T : Int), d) ++ r).length = 4 + d.length + r.length := by rw [List.length_append, bkB_len]
  refine ⟨?_, hsz, ?_, ?_⟩
  · unfold fsE
    rw [if_neg (by omega), hsz, if_neg (by omega), hty, if_neg (by omega)]
  · unfold fsK
    rw [hsz, hty]
    have : (bkB b ((T : Int), d) ++ r).drop 4 = d ++ r := by
      unfold bkB
      simp only [List.append_assoc]
      rw [show (4 : Nat) = 1 + 3 from rfl, ← List.drop_drop, drop_one, List.drop_left' (be_len _ _)]
    rw [this, List.take_left' rfl]
  · rw [h0]
    cases b
    · simp; omega
    · simp
theorem gb_take {l : List Bk} {j : Nat} (h : j < l.length) : l.take (j + 1) = l.take j ++ [gb l j] := by rw [gb_eq h, List.take_succ_eq_append_getElem h]
theorem read_from {l : List Bk} (hg : goodN l l.length) (hs : ∀ j, j < l.length → (gb l j).2.length < 16777216) (b : List Nat) : ∀ (m j f : Nat), j + m = l.length → 0 < m → m ≤ f → rdF (wrN l l.length ++ b) f (tot l j) (l.take j) = (l, tot l l.length, 0)
  | 0, _, _, _, h, _ => absurd h (by omega)
  | m + 1, j, f, hj, _, hf => by
    obtain ⟨f, rfl⟩ : ∃ f', f = f' + 1 := ⟨f - 1, by omega⟩
    have hlt : j < l.length := by omega
    obtain ⟨r, hr, hrn, _⟩ := wr_at l hlt
    have hd : (wrN l l.length ++ b).drop (tot l j) = bkB (decide (j + 1 = l.length)) (gb l j) ++ (r ++ b) := by
      rw [hr, List.append_assoc, List.drop_left' (wrN_len l j), List.append_assoc]
    obtain ⟨h1, h2, h3, h4⟩ := bk_read (b := decide (j + 1 = l.length)) (hg j hlt) (hs j hlt) (r ++ b)
    have ht := tot_succ l j
    rw [rdF_step, hd, if_pos h1, h2, h3, ← gb_take hlt, ← ht]
    by_cases he : j + 1 = l.length
    · rw [if_pos (h4.2 (decide_eq_true he)), he, List.take_of_length_le (Nat.le_refl _)]
    · rw [if_neg (fun h => he (of_decide_eq_true (h4.1 h)))]
      exact read_from hg hs b m (j + 1) f (by omega) (by omega) (by omega)
theorem tot_ge (l : List Bk) (n : Nat) : 4 * n ≤ tot l n := by
  induction n with
  | zero => exact Nat.zero_le _
  | succ n ih => rw [tot_succ]; omega
/-- THE STAGE'S THEOREM's first half: Read of Write. -/
theorem read_write {l : List Bk} (hg : goodN l l.length) (h0 : 0 < l.length) (hs : ∀ j, j < l.length → (gb l j).2.length < 16777216) (b : List Nat) : rdB (wrN l l.length ++ b) = (l, tot l l.length, 0) := by
  unfold rdB
  have := read_from hg hs b l.length 0 ((wrN l l.length ++ b).length + 1) (by omega) h0 (by rw [List.length_append, wrN_len]; have := tot_ge l l.length; omega)
  simpa [tot] using this
/-- a block's bytes but the last one -/
theorem bk_short {b : Bool} {k : Bk} (hs : k.2.length < 16777216) : fsE ((bkB b k).take ((bkB b k).length - 1)) = 11 := by
  obtain ⟨t, d⟩ := k
  simp only at hs
  rw [bkB_len]
  simp only
  by_cases hd : d.length = 0
  · unfold fsE
    rw [if_pos (by rw [List.length_take, bkB_len]; simp only; omega)]
  · have e : (bkB b (t, d)).take (4 + d.length - 1) = [(if b then 128 else 0) + t.toNat] ++ (be 3 d.length ++ d.take (d.length - 1)) := by
      unfold bkB
      simp only
      rw [show 4 + d.length - 1 = 1 + (3 + (d.length - 1)) by omega, List.take_append, List.take_append]
      simp only [List.length_singleton, be_len]
      rw [List.take_of_length_le (by simp), List.take_of_length_le (by rw [be_len]; omega), show 1 + (3 + (d.length - 1)) - 1 - 3 = d.length - 1 by omega]
    have hsz : szK ((bkB b (t, d)).take (4 + d.length - 1)) = d.length := by
      rw [e]
      unfold szK
      rw [drop_one, List.take_left' (be_len _ _)]
      exact vl_be 3 _ (by rw [show (2 : Nat) ^ (8 * 3) = 16777216 by decide]; exact hs)
    have hl : ((bkB b (t, d)).take (4 + d.length - 1)).length = 3 + d.length := by rw [List.length_take, bkB_len]; simp only; omega
    unfold fsE
    rw [if_neg (by omega), hsz, if_pos (by omega)]
theorem short_from {l : List Bk} (hg : goodN l l.length) (hs : ∀ j, j < l.length → (gb l j).2.length < 16777216) : ∀ (m j f : Nat), j + m = l.length → 0 < m → m ≤ f → (rdF ((wrN l l.length).take (tot l l.length - 1)) f (tot l j) (l.take j)) = ([], 0, 11)
  | 0, _, _, _, h, _ => absurd h (by omega)
  | m + 1, j, f, hj, _, hf => by
    obtain ⟨f, rfl⟩ : ∃ f', f = f' + 1 := ⟨f - 1, by omega⟩
    have hlt : j < l.length := by omega
    obtain ⟨r, hr, hrn, hrl⟩ := wr_at l hlt
    have ht := tot_succ l j
    have hm1 := tot_mono l (j + 1) l.length hlt
    have hd : ((wrN l l.length).take (tot l l.length - 1)).drop (tot l j) = (bkB (decide (j + 1 = l.length)) (gb l j) ++ r).take (tot l l.length - 1 - tot l j) := by
      rw [List.drop_take, hr, List.drop_left' (wrN_len l j)]
    by_cases he : j + 1 = l.length
    · have hsh := bk_short (b := decide (j + 1 = l.length)) (hs j hlt)
      rw [bkB_len] at hsh
      rw [hrn he, List.append_nil, show tot l l.length - 1 - tot l j = 4 + (gb l j).2.length - 1 by rw [← he, ht]; omega] at hd
      rw [rdF_step, hd, hsh, if_neg (by decide)]
    · have h4 := tot_ge l l.length
      have hgt : tot l (j + 1) + 4 ≤ tot l l.length := by
        have h1 := tot_mono l (j + 1 + 1) l.length (by omega)
        have h2 := tot_succ l (j + 1)
        omega
      have hd2 : ((wrN l l.length).take (tot l l.length - 1)).drop (tot l j) = bkB (decide (j + 1 = l.length)) (gb l j) ++ r.take (tot l l.length - 1 - tot l (j + 1)) := by
        rw [hd, List.take_append, bkB_len, List.take_of_length_le (by rw [bkB_len]; omega), show tot l l.length - 1 - tot l j - (4 + (gb l j).2.length) = tot l l.length - 1 - tot l (j + 1) by omega]
      obtain ⟨h1, h2, h3, h5⟩ := bk_read (b := decide (j + 1 = l.length)) (hg j hlt) (hs j hlt) (r.take (tot l l.length - 1 - tot l (j + 1)))
      rw [rdF_step, hd2, if_pos h1, h2, h3, ← gb_take hlt, ← ht, if_neg (fun h => he (of_decide_eq_true (h5.1 h)))]
      exact short_from hg hs m (j + 1) f (by omega) (by omega) (by omega)
theorem read_short {l : List Bk} (hg : goodN l l.length) (h0 : 0 < l.length) (hs : ∀ j, j < l.length → (gb l j).2.length < 16777216) : rdB ((wrN l l.length).take (tot l l.length - 1)) = ([], 0, 11) := by
  unfold rdB
  have := short_from hg hs l.length 0 (((wrN l l.length).take (tot l l.length - 1)).length + 1) (by omega) h0 (by rw [List.length_take, wrN_len]; have := tot_ge l l.length; omega)
  simpa [tot] using this
/-- blocks none of which is told to be the last -/
def enc (l : List Bk) : List Nat := (l.map (bkB false)).flatten
theorem enc_snoc (l : List Bk) (k : Bk) : enc (l ++ [k]) = enc l ++ bkB false k := by unfold enc; simp
theorem wr_enc (l : List Bk) (k : Bk) : wrN (l ++ [k]) (l ++ [k]).length = enc l ++ bkB true k := by
  have key : ∀ n, n ≤ l.length → wrN (l ++ [k]) n = enc (l.take n) := by
    intro n
    induction n with
    | zero => intro _; rfl
    | succ n ih =>
      intro hn
      have hg : gb (l ++ [k]) n = gb l n := by
        rw [gb_eq (by simp; omega), gb_eq (by omega), List.getElem_append_left (by omega)]
      rw [wrN_succ, ih (by omega), gb_take (by omega), enc_snoc, hg, decide_eq_false (by simp; omega)]
  rw [List.length_append, List.length_singleton, wrN_succ, key _ (Nat.le_refl _), List.take_of_length_le (Nat.le_refl _)]
  have hg : gb (l ++ [k]) l.length = k := by
    rw [gb_eq (by simp)]
    simp
  rw [hg, decide_eq_true (by simp)]
/-- what was read is written as the bytes that were read -/
theorem bk_write {D : List Nat} (hb : ∀ x ∈ D, x < 256) (h : fsE D = 0) : bkB (decide (128 ≤ D.getD 0 0)) (fsK D) = D.take (4 + szK D) ∧ goodT (fsK D).1 := by
  obtain ⟨h4, h127⟩ := fsE_ok h
  have hlen := fsK_len h
  have hne : 0 < D.length := by omega
  have h0 : D.getD 0 0 = D[0] := by rw [List.getD_eq_getElem?_getD, List.getElem?_eq_getElem hne, Option.getD_some]
  have hx := hb _ (List.getElem_mem hne)
  have hty : tyK D = D[0] % 128 := by unfold tyK; rw [h0]
  constructor
  · unfold bkB
    rw [hlen]
    have e1 : [(if decide (128 ≤ D.getD 0 0) then 128 else 0) + ((fsK D).1).toNat] = D.take 1 := by
      have e : (fsK D).1 = ((tyK D : Nat) : Int) := rfl
      rw [e, h0, hty, Int.toNat_natCast]
      have : D.take 1 = [D[0]] := by
        cases D with
        | nil => simp at hne
        | cons a r => rfl
      rw [this]
      congr 1
      by_cases h8 : 128 ≤ D[0]
      · simp [h8]; omega
      · simp [h8]; omega
    have e2 : be 3 (szK D) = (D.drop 1).take 3 := seg (by omega) hb
    have e3 : (fsK D).2 = (D.drop 4).take (szK D) := rfl
    rw [e1, e2, e3, show 4 + szK D = 1 + (3 + szK D) by omega, List.take_add, List.take_add, List.drop_drop]
  · have e : (fsK D).1 = ((tyK D : Nat) : Int) := rfl
    rw [e]
    unfold goodT
    omega
theorem write_from {bs : List Nat} (hb : ∀ x ∈ bs, x < 256) : ∀ (f s : Nat) (acc l : List Bk) (n : Nat), rdF bs f s acc = (l, n, 0) → s ≤ bs.length → enc acc = bs.take s → (∀ k ∈ acc, goodT k.1) → ∃ l0 k, l = l0 ++ [k] ∧ enc l0 ++ bkB true k = bs.take n ∧ (∀ k ∈ l, goodT k.1) ∧ n ≤ bs.length
  | 0, s, acc, l, n, h, _, _, _ => by
    injection h with _ h
    injection h with _ h
    cases h
  | f + 1, s, acc, l, n, h, hs, he, hg => by
    rw [rdF_step] at h
    by_cases h0 : fsE (bs.drop s) = 0
    · rw [if_pos h0] at h
      have hbd : ∀ x ∈ bs.drop s, x < 256 := fun x hx => hb x (List.mem_of_mem_drop hx)
      obtain ⟨hw, hgk⟩ := bk_write hbd h0
      have hok := (fsE_ok h0).1
      rw [List.length_drop] at hok
      have hadd : bs.take s ++ (bs.drop s).take (4 + szK (bs.drop s)) = bs.take (s + (4 + szK (bs.drop s))) := List.take_add.symm
      by_cases hl : 128 ≤ (bs.drop s).getD 0 0
      · rw [if_pos hl] at h
        injection h with h1 h2
        injection h2 with h2 _
        subst h1 h2
        refine ⟨acc, _, rfl, ?_, fun k hk => ?_, by omega⟩
        · rw [decide_eq_true hl] at hw
          rw [he, hw, hadd]
        · rcases List.mem_append.1 hk with h | h
          · exact hg k h
          · rw [List.mem_singleton.1 h]; exact hgk
      · rw [if_neg hl] at h
        refine write_from hb f _ _ l n h (by omega) ?_ (fun k hk => ?_)
        · rw [decide_eq_false hl] at hw
          rw [enc_snoc, he, hw, hadd]
        · rcases List.mem_append.1 hk with h | h
          · exact hg k h
          · rw [List.mem_singleton.1 h]; exact hgk
    · rw [if_neg h0] at h
      injection h with _ h
      injection h with _ h
      exact absurd h h0
/-- THE STAGE'S THEOREM's second half: Write of Read. -/
theorem write_read {bs : List Nat} (hb : ∀ x ∈ bs, x < 256) (h : (rdB bs).2.2 = 0) : wE (rdB bs).1 = 0 ∧ wB (rdB bs).1 = bs.take (rdB bs).2.1 ∧ (rdB bs).2.1 ≤ bs.length ∧ tot (rdB bs).1 (rdB bs).1.length = (rdB bs).2.1 := by
  obtain ⟨⟨l, n, E⟩, hr⟩ : ∃ R, rdB bs = R := ⟨_, rfl⟩
  rw [hr] at h
  simp only at h
  subst h
  obtain ⟨l0, k, rfl, h1, h2, h3⟩ := write_from hb _ 0 [] l n hr (Nat.zero_le _) rfl (fun k hk => absurd hk (by simp))
  have hgn : goodN (l0 ++ [k]) (l0 ++ [k]).length := fun i hi => by rw [gb_eq hi]; exact h2 _ (List.getElem_mem hi)
  have hE : wE (l0 ++ [k]) = 0 := by unfold wE; rw [if_neg (by simp), if_pos hgn]
  have hW : wrN (l0 ++ [k]) (l0 ++ [k]).length = bs.take n := by rw [wr_enc, h1]
  rw [hr]
  simp only
  refine ⟨hE, by unfold wB; rw [if_pos hE, hW], h3, ?_⟩
  rw [← wrN_len, hW, List.length_take]
  omega
end Go.Proofs.Ytighdjbeddcckaa
