/-
  What is read of bits is written as them: plain mathematics.
-/
import Derived.Test.YteklfkpeaadinaaGreatDoorPBG11
namespace Go.Proofs.YteklfkpeaadinaaGreatDoor
open Go.RowKit

/-- at a stand the bits E -/
def Sees (bs : List Nat) (a : Nat) (E : List Nat) : Prop := a + E.length ≤ 8 * bs.length ∧ ((bitsOf bs).drop a).take E.length = E
theorem Sees.nil {bs : List Nat} {a : Nat} (h : a ≤ 8 * bs.length) : Sees bs a [] := ⟨by simpa using h, by simp⟩
theorem Sees.append {bs : List Nat} {a : Nat} {E F : List Nat} (h : Sees bs a E) (k : Sees bs (a + E.length) F) : Sees bs a (E ++ F) := by
  refine ⟨by rw [List.length_append]; have := k.1; omega, ?_⟩
  rw [List.length_append, List.take_add, h.2, List.drop_drop, k.2]
theorem Sees.to {bs : List Nat} {a b : Nat} {E : List Nat} (h : Sees bs a E) (e : a = b) : Sees bs b E := by subst e; exact h
theorem take_sees {bs : List Nat} {a n : Nat} (h : takeE bs a (n : Int) = 0) : Sees bs a (bitsN n (numAt bs a n)) := by
  have hl : a + n ≤ 8 * bs.length := by
    unfold takeE at h
    split at h
    · cases h
    · split at h
      · cases h
      · omega
  have hlen : (((bitsOf bs).drop a).take n).length = n := by rw [List.length_take, List.length_drop, bitsOf_len]; omega
  have hv := bitsN_val (((bitsOf bs).drop a).take n) (fun b hb => bitsOf_le bs b (List.mem_of_mem_drop (List.mem_of_mem_take hb)))
  rw [hlen] at hv
  refine ⟨by rw [bitsN_len]; exact hl, ?_⟩
  rw [bitsN_len]
  exact hv.symm
theorem unary_sees {bs : List Nat} {a : Nat} (ha : a ≤ 8 * bs.length) (h : unaryE bs a = 0) : Sees bs a (List.replicate (unaryR bs a).toNat 0 ++ [1]) ∧ unaryA bs a = a + (unaryR bs a).toNat + 1 := by
  have hO : ¬ oneAt bs a = 8 * bs.length := fun e => by unfold unaryE at h; rw [if_pos e] at h; cases h
  obtain ⟨h1, h2⟩ := oneAt_le bs a ha
  have e1 : unaryR bs a = ((oneAt bs a - a : Nat) : Int) := by unfold unaryR; rw [if_neg hO]
  have e2 : unaryA bs a = oneAt bs a + 1 := by unfold unaryA; rw [if_neg hO]
  rw [e1, e2, Int.toNat_natCast]
  refine ⟨⟨?_, ?_⟩, by omega⟩
  · rw [List.length_append, List.length_replicate, List.length_singleton]; omega
  · rw [List.length_append, List.length_replicate, List.length_singleton]
    have hl : ((bitsOf bs).drop a).length = 8 * bs.length - a := by rw [List.length_drop, bitsOf_len]
    have hb : ∀ b ∈ (bitsOf bs).drop a, b ≤ 1 := fun b hb => bitsOf_le bs b (List.mem_of_mem_drop hb)
    have hoe : oneAt bs a - a = ((bitsOf bs).drop a).findIdx (· == 1) := by unfold oneAt; omega
    have hlt : ((bitsOf bs).drop a).findIdx (· == 1) < ((bitsOf bs).drop a).length := by omega
    rw [hoe]
    generalize (bitsOf bs).drop a = M at *
    apply List.ext_getElem
    · rw [List.length_take, List.length_append, List.length_replicate, List.length_singleton]; omega
    · intro i i1 i2
      rw [List.getElem_take]
      rcases Nat.lt_or_ge i (M.findIdx (· == 1)) with h3 | h3
      · rw [List.getElem_append_left (by simpa using h3), List.getElem_replicate]
        have h4 := List.not_of_lt_findIdx h3
        have h5 := hb M[i] (List.getElem_mem _)
        have h6 : ¬ M[i] = 1 := by simpa using h4
        omega
      · have h4 : i = M.findIdx (· == 1) := by
          rw [List.length_append, List.length_replicate, List.length_singleton] at i2
          omega
        subst h4
        rw [List.getElem_append_right (by simp)]
        have h5 := List.findIdx_getElem (w := hlt)
        simpa using h5
theorem rc_forth {bs : List Nat} {p a a' : Nat} {x : Int} (_ : p ≤ 30) (ha : a ≤ 8 * bs.length) (h : rcX bs p a = (x, 0, a')) : okR p 0 x ∧ Sees bs a (resB p 0 x) ∧ a' = a + (resB p 0 x).length := by
  unfold rcX at h
  split at h
  · rename_i g; injection h with _ h; injection h with h _; exact absurd h g
  rename_i hU
  split at h
  · injection h with _ h; injection h with h _; cases h
  rename_i hU2
  split at h
  · rename_i g; injection h with _ h; injection h with h _; exact absurd h g
  rename_i hT
  split at h
  · rename_i hx
    injection h with hx1 h
    injection h with _ ha'
    have hU' : unaryE bs a = 0 := by simpa using hU
    have hT' : takeE bs (unaryA bs a) (p : Int) = 0 := by simpa using hT
    obtain ⟨s1, s2⟩ := unary_sees ha hU'
    have s3 := take_sees hT'
    have hN := numAt_lt bs (unaryA bs a) p
    have hR := unaryR_nat bs a
    generalize hu : (unaryR bs a).toNat = u at *
    generalize hNn : numAt bs (unaryA bs a) p = N at *
    have hf : fd x = u * 2 ^ p + N := by rw [← hx1, fd_ufd]
    have hpp : 0 < 2 ^ p := Nat.two_pow_pos p
    have hd : fd x / 2 ^ p = u := by
      rw [hf, Nat.mul_comm, Nat.mul_add_div hpp, Nat.div_eq_of_lt hN, Nat.add_zero]
    have hm : fd x % 2 ^ p = N := by
      rw [hf, Nat.mul_comm, Nat.mul_add_mod, Nat.mod_eq_of_lt hN]
    have er : resB p 0 x = (List.replicate u 0 ++ [1]) ++ bitsN p N := by
      unfold resB
      rw [if_neg (by omega), Int.toNat_natCast, hd, hm]
    rw [er]
    refine ⟨⟨by rw [← hx1]; exact hx, ?_⟩, s1.append (s3.to ?_), ?_⟩
    · rw [if_neg (by omega), Int.toNat_natCast, hd]; omega
    · rw [s2, List.length_append, List.length_replicate, List.length_singleton]; omega
    · rw [← ha', s2, List.length_append, List.length_append, List.length_replicate, List.length_singleton, bitsN_len]; omega
  · injection h with _ h; injection h with h _; cases h
theorem sg_forth {bs : List Nat} {wd a a' : Nat} {x : Int} (hw : wd ≤ 31) (h : sgX bs wd a = (x, 0, a')) : okR (-1) wd x ∧ Sees bs a (resB (-1) wd x) ∧ a' = a + (resB (-1) wd x).length := by
  unfold sgX at h
  injection h with h1 h
  injection h with h2 h3
  have s := take_sees h2
  have hN := numAt_lt bs a wd
  have e3 : takeA bs a (wd : Int) = a + wd := (takeR_ok h2).2
  have hs : isS wd x ∧ (x % 2 ^ wd).toNat = numAt bs a wd := by
    unfold signR at h1
    rw [if_pos h2, Int.toNat_natCast] at h1
    generalize numAt bs a wd = N at *
    unfold isS
    rcases Nat.eq_zero_or_pos wd with rfl | hp
    · have : N = 0 := by simpa using hN
      subst this
      rw [if_neg (by omega)] at h1
      have : x = 0 := by omega
      subst this
      simp
    · obtain ⟨k, rfl⟩ : ∃ k, wd = k + 1 := ⟨wd - 1, by omega⟩
      rw [if_neg (by omega), Nat.add_sub_cancel]
      rw [Nat.add_sub_cancel] at h1
      rw [pow_cast (k + 1)] at h1
      rw [pow_cast k, pow_cast (k + 1)]
      have hps : 2 ^ (k + 1) = 2 ^ k * 2 := Nat.pow_succ 2 k
      have hpp : 0 < 2 ^ k := Nat.two_pow_pos k
      rw [hps] at h1 hN ⊢
      clear hps
      generalize 2 ^ k = P at *
      split at h1
      · rename_i g
        have hx : x = (N : Int) - ((P * 2 : Nat) : Int) := h1.symm
        refine ⟨by omega, ?_⟩
        have : x % ((P * 2 : Nat) : Int) = (N : Int) := by
          rw [hx, Int.sub_emod_right, Int.emod_eq_of_lt (by omega) (by omega)]
        rw [this, Int.toNat_natCast]
      · rename_i g
        have hx : x = (N : Int) := h1.symm
        refine ⟨by omega, ?_⟩
        rw [hx, Int.emod_eq_of_lt (by omega) (by omega), Int.toNat_natCast]
  have er : resB (-1) wd x = bitsN wd (numAt bs a wd) := by
    unfold resB
    rw [if_pos rfl, Int.toNat_natCast, hs.2]
  have hf := (isS_fd wd x).1 hs.1
  have hr : isR x := by
    have h9 := Nat.lt_of_lt_of_le hf (Nat.pow_le_pow_right (show 0 < 2 by decide) hw)
    unfold fd at h9
    unfold isR
    split at h9 <;> omega
  rw [er]
  exact ⟨⟨hr, by rw [if_pos rfl, Int.toNat_natCast]; exact hf⟩, s, by rw [← h3, e3, bitsN_len]⟩
theorem fill_forth {bs : List Nat} (f : Nat → Rx) (B : Int → List Nat) (Q : Int → Prop) (hf : ∀ a x a', a ≤ 8 * bs.length → f a = (x, 0, a') → Q x ∧ Sees bs a (B x) ∧ a' = a + (B x).length) : ∀ (n a : Nat), a ≤ 8 * bs.length → fE f n a = 0 →
    (∀ x ∈ fV f n a, Q x) ∧ Sees bs a ((fV f n a).flatMap B) ∧ fA f n a = a + ((fV f n a).flatMap B).length
  | 0, a, ha, _ => ⟨by simp [fV], by rw [fV, List.flatMap_nil]; exact Sees.nil ha, by simp [fA, fV]⟩
  | n + 1, a, ha, h => by
    rw [fE] at h
    split at h
    · rename_i g; exact absurd h g
    rename_i g
    have g' : (f a).2.1 = 0 := by simpa using g
    obtain ⟨q1, q2, q3⟩ := hf a (f a).1 (f a).2.2 ha (by rw [← g'])
    obtain ⟨r1, r2, r3⟩ := fill_forth f B Q hf n (f a).2.2 (by rw [q3]; exact q2.1) h
    rw [fV, fA, List.flatMap_cons]
    refine ⟨fun x hx => ?_, q2.append (r2.to q3), ?_⟩
    · rcases List.mem_cons.1 hx with rfl | hx
      · exact q1
      · exact r1 x hx
    · rw [r3, List.length_append]
      omega
theorem part_forth {bs : List Nat} {m n a a' : Nat} {p wd : Int} {ys : List Int} (hm : m ≤ 1) (h : RPok bs m n a p wd ys a') : ys.length = n ∧ isP m p wd ∧ (∀ x ∈ ys, okR p wd x) ∧ Sees bs a (partB m p wd ys) ∧ a' = a + (partB m p wd ys).length := by
  obtain ⟨h1, h2⟩ := h
  have s1 := take_sees h1
  have hN := numAt_lt bs a (4 + m)
  have hb1 : a + (4 + m) ≤ 8 * bs.length := by have := s1.1; rwa [bitsN_len] at this
  generalize numAt bs a (4 + m) = N at *
  rcases h2 with ⟨k1, rfl, rfl, k4, rfl, rfl⟩ | ⟨rfl, k2, rfl, rfl, k5, rfl, rfl⟩
  · have hN2 : N ≤ 14 + 16 * m := by
      obtain rfl | rfl : m = 0 ∨ m = 1 := by omega
      · have : (2 : Nat) ^ (4 + 0) = 16 := by decide
        omega
      · have : (2 : Nat) ^ (4 + 1) = 32 := by decide
        omega
    obtain ⟨q1, q2, q3⟩ := fill_forth (rcX bs N) (resB N 0) (okR N 0) (fun a x a' ha hx => rc_forth (by omega) ha hx) n (a + (4 + m)) hb1 k4
    have ht : partB m N 0 (fV (rcX bs N) n (a + (4 + m))) = bitsN (4 + m) N ++ (fV (rcX bs N) n (a + (4 + m))).flatMap (resB N 0) := by
      unfold partB hdB
      rw [if_neg (by omega), Int.toNat_natCast]
    rw [ht]
    refine ⟨fV_len _ _ _, .inr ⟨by omega, by omega, rfl⟩, q1, s1.append (q2.to (by rw [bitsN_len])), ?_⟩
    rw [q3, List.length_append, bitsN_len]
    omega
  · have s2 := take_sees (n := 5) k2
    have hW := numAt_lt bs (a + (4 + m)) 5
    have hb2 : a + (4 + m) + 5 ≤ 8 * bs.length := by have := s2.1; rwa [bitsN_len] at this
    generalize numAt bs (a + (4 + m)) 5 = W at *
    have hW2 : W ≤ 31 := by
      have : (2 : Nat) ^ 5 = 32 := by decide
      omega
    obtain ⟨q1, q2, q3⟩ := fill_forth (sgX bs W) (resB (-1) W) (okR (-1) W) (fun a x a' _ hx => sg_forth hW2 hx) n (a + (4 + m) + 5) hb2 k5
    have ht : partB m (-1) W (fV (sgX bs W) n (a + (4 + m) + 5)) = (bitsN (4 + m) (15 + 16 * m) ++ bitsN 5 W) ++ (fV (sgX bs W) n (a + (4 + m) + 5)).flatMap (resB (-1) W) := by
      unfold partB hdB
      rw [if_pos rfl, Int.toNat_natCast]
    rw [ht]
    refine ⟨fV_len _ _ _, .inl ⟨rfl, by omega, by omega⟩, q1, (s1.append (s2.to (by rw [bitsN_len]))).append (q2.to (by rw [List.length_append, bitsN_len, bitsN_len]; omega)), ?_⟩
    rw [q3, List.length_append, List.length_append, bitsN_len, bitsN_len]
    omega
theorem parts_forth {bs : List Nat} {m : Nat} (hm : m ≤ 1) (nk : Nat → Nat) : ∀ (ks : List Nat) (a : Nat) (rs : List (Int × Int × List Int)) (a' : Nat), a ≤ 8 * bs.length → RBk bs m nk ks a rs a' →
    rs.map (fun t => t.2.2.length) = ks.map nk ∧ (∀ t ∈ rs, isP m t.1 t.2.1 ∧ ∀ x ∈ t.2.2, okR t.1 t.2.1 x) ∧ Sees bs a (rs.flatMap fun t => partB m t.1 t.2.1 t.2.2) ∧ a' = a + (rs.flatMap fun t => partB m t.1 t.2.1 t.2.2).length
  | [], a, [], a', ha, h => by
    obtain rfl : a = a' := h
    exact ⟨rfl, by simp, by rw [List.flatMap_nil]; exact Sees.nil ha, by simp⟩
  | k :: ks, a, t :: rs, a', ha, h => by
    obtain ⟨a1, h1, h2⟩ := h
    obtain ⟨p1, p2, p3, p4, p5⟩ := part_forth hm h1
    obtain ⟨q1, q2, q3, q4⟩ := parts_forth hm nk ks a1 rs a' (by rw [p5]; exact p4.1) h2
    rw [List.flatMap_cons]
    refine ⟨by rw [List.map_cons, List.map_cons, p1, q1], fun s hs => ?_, p4.append (q3.to p5), by rw [q4, List.length_append]; omega⟩
    rcases List.mem_cons.1 hs with rfl | hs
    · exact ⟨p2, p3⟩
    · exact q2 s hs
  | [], _, _ :: _, _, _, h => h.elim
  | _ :: _, _, [], _, _, h => h.elim
theorem flat_take (S s P : Nat) (hS : s < S) (yss : List (List Int)) (h : yss.map List.length = (List.range P).map fun k => frm S s (k + 1) - frm S s k) : ∀ k, k ≤ P → (yss.take k).flatten.length = frm S s k
  | 0, _ => by simp [frm_zero]
  | k + 1, hk => by
    have ih := flat_take S s P hS yss h k (by omega)
    have hl : yss.length = P := by have := congrArg List.length h; simpa using this
    have h1 : (yss.map List.length)[k]? = ((List.range P).map fun k => frm S s (k + 1) - frm S s k)[k]? := by rw [h]
    rw [List.getElem?_map, List.getElem?_map, List.getElem?_eq_getElem (by omega), List.getElem?_range (by omega)] at h1
    simp only [Option.map_some, Option.some.injEq] at h1
    have h2 := (frm_step S s k hS).1
    rw [List.take_succ_eq_append_getElem (by omega), List.flatten_append, List.length_append, ih]
    simp only [List.flatten_cons, List.flatten_nil, List.append_nil]
    omega
theorem flat_pt (S s P : Nat) (hS : s < S) (yss : List (List Int)) (h : yss.map List.length = (List.range P).map fun k => frm S s (k + 1) - frm S s k) (k : Nat) (hk : k < P) (hl : k < yss.length) : pt S s yss.flatten k = yss[k] := by
  have h1 := flat_take S s P hS yss h k (by omega)
  have h2 := flat_take S s P hS yss h (k + 1) (by omega)
  rw [List.take_succ_eq_append_getElem hl, List.flatten_append, List.length_append, h1] at h2
  simp only [List.flatten_cons, List.flatten_nil, List.append_nil] at h2
  have h3 : yss.flatten = (yss.take k).flatten ++ (yss[k] ++ (yss.drop (k + 1)).flatten) := by
    conv => lhs; rw [← List.take_append_drop k yss, List.flatten_append, List.drop_eq_getElem_cons hl, List.flatten_cons]
  unfold pt
  rw [h3, ← h1, List.drop_left, h1, show frm S s (k + 1) - frm S s k = yss[k].length from by omega, List.take_left]
theorem block_forth {bs : List Nat} {a b s m o a' : Nat} {rs : List (Int × Int × List Int)} (hB : ckB b s = 0) (h : Parse bs a b s m o rs a') :
    ∃ l, l = (rs.map (·.2.2)).flatten ∧ Fine m o s (2 ^ o) (b / 2 ^ o) (rs.map (·.1)) (rs.map (·.2.1)) l ∧ l.length = b - s ∧ (List.range (2 ^ o)).map (fun k => pt (b / 2 ^ o) s l k) = rs.map (·.2.2) ∧
      Sees bs a (blockB (b / 2 ^ o) s (2 ^ o) m o (rs.map (·.1)) (rs.map (·.2.1)) l) ∧ a' = a + (blockB (b / 2 ^ o) s (2 ^ o) m o (rs.map (·.1)) (rs.map (·.2.1)) l).length ∧ rs.length = 2 ^ o := by
  obtain ⟨⟨h1, h2, h3, h4, h5, h6⟩, h7⟩ := h
  obtain ⟨b1, b2, _, b4⟩ := ckB_zero hB
  obtain ⟨i1, i2⟩ := ckP_zero h6
  have s1 := take_sees (n := 2) h1
  have s2 := take_sees (n := 4) h4
  have ho := numAt_lt bs (a + 2) 4
  rw [← h2] at s1
  rw [← h5] at s2 ho
  have ho2 : o < 16 := by
    have : (2 : Nat) ^ 4 = 16 := by decide
    omega
  have hb2 : a + 6 ≤ 8 * bs.length := by have := s2.1; rw [bitsN_len] at this; omega
  obtain ⟨q1, q2, q3, q4⟩ := parts_forth (by omega) _ _ _ _ _ hb2 h7
  have hlen := h7.len
  rw [List.length_range] at hlen
  have hyl : (rs.map (·.2.2)).map List.length = (List.range (2 ^ o)).map fun k => frm (b / 2 ^ o) s (k + 1) - frm (b / 2 ^ o) s k := by
    rw [List.map_map]; exact q1
  have hS : s < b / 2 ^ o := by omega
  have hl0 := flat_take (b / 2 ^ o) s (2 ^ o) hS _ hyl (2 ^ o) (Nat.le_refl _)
  rw [List.take_of_length_le (by simp [hlen])] at hl0
  have hfP : frm (b / 2 ^ o) s (2 ^ o) = b - s := by unfold frm; rw [i1]
  rw [hfP] at hl0
  have hpt := fun k hk => flat_pt (b / 2 ^ o) s (2 ^ o) hS _ hyl k hk (by simp [hlen]; exact hk)
  generalize hl : (rs.map (·.2.2)).flatten = l at *
  have hsb : s ≤ b := by
    have := Nat.div_le_self b (2 ^ o)
    omega
  have hpm : (List.range (2 ^ o)).map (fun k => pt (b / 2 ^ o) s l k) = rs.map (·.2.2) := by
    apply List.ext_getElem
    · simp [hlen]
    · intro k k1 k2
      rw [List.getElem_map, List.getElem_range]
      exact hpt k (by simpa using k1)
  have hget : ∀ k, (hk : k < rs.length) → (rs.map (·.1)).getD k 0 = rs[k].1 ∧ (rs.map (·.2.1)).getD k 0 = rs[k].2.1 ∧ pt (b / 2 ^ o) s l k = rs[k].2.2 := fun k hk => by
    refine ⟨?_, ?_, ?_⟩
    · rw [List.getD_eq_getElem?_getD, List.getElem?_map, List.getElem?_eq_getElem hk]; rfl
    · rw [List.getD_eq_getElem?_getD, List.getElem?_map, List.getElem?_eq_getElem hk]; rfl
    · rw [hpt k (by omega), List.getElem_map]
  have hbk : blockB (b / 2 ^ o) s (2 ^ o) m o (rs.map (·.1)) (rs.map (·.2.1)) l = (bitsN 2 m ++ bitsN 4 o) ++ rs.flatMap fun t => partB m t.1 t.2.1 t.2.2 := by
    unfold blockB
    congr 1
    have : (List.range (2 ^ o)).map (fun k => partB m ((rs.map (·.1)).getD k 0) ((rs.map (·.2.1)).getD k 0) (pt (b / 2 ^ o) s l k)) = rs.map fun t => partB m t.1 t.2.1 t.2.2 := by
      apply List.ext_getElem
      · simp [hlen]
      · intro k k1 k2
        have hk : k < rs.length := by simpa using k2
        obtain ⟨g1, g2, g3⟩ := hget k hk
        rw [List.getElem_map, List.getElem_map, List.getElem_range, g1, g2, g3]
    rw [List.flatMap_def, List.flatMap_def, this]
  have heq : 2 ^ o * (b / 2 ^ o) = l.length + s := by rw [i1, hl0]; omega
  have hok : ∀ k, k < 2 ^ o → ∀ x ∈ pt (b / 2 ^ o) s l k, okR ((rs.map (·.1)).getD k 0) ((rs.map (·.2.1)).getD k 0) x := fun k hk x hx => by
    obtain ⟨g1, g2, g3⟩ := hget k (by omega)
    rw [g3] at hx
    rw [g1, g2]
    exact (q2 _ (List.getElem_mem _)).2 x hx
  have hmr := (ok_all (b / 2 ^ o) s (2 ^ o) (rs.map (·.1)) (rs.map (·.2.1)) l hS heq).2 hok
  refine ⟨l, rfl, ⟨by omega, by omega, by omega, rfl, heq, hS, by omega, by simp [hlen], by simp [hlen], fun k k1 k2 => ?_, hmr.1, hmr.2⟩, hl0, hpm, ?_, ?_, hlen⟩
  · have hk : k < rs.length := by simpa using k1
    rw [List.getElem_map, List.getElem_map]
    exact (q2 _ (List.getElem_mem hk)).1
  · rw [hbk]
    exact (s1.append (s2.to (by rw [bitsN_len]))).append (q3.to (by rw [List.length_append, bitsN_len, bitsN_len]))
  · rw [hbk, q4, List.length_append, List.length_append, bitsN_len, bitsN_len]
    omega
end Go.Proofs.YteklfkpeaadinaaGreatDoor
namespace Go.Proofs.YteklfkpeaadinaaGreatDoor
open Go.RowKit

/-- a row of bits as numbers -/
theorem isrc_bits {w : World} {base : Nat} {v : Value} {L : List Nat} (h : Bitrow w base v L) (hb : ∀ b ∈ L, b ≤ 1) (hl : L.length ≤ 100000000) : ISrc w v (L.map fun (b : Nat) => (b : Int)) := by
  refine ⟨?_, by rw [List.length_map]; omega, fun x hx => ?_⟩
  · rcases h.2 with ⟨rfl, hn⟩ | ⟨g, cap, cur, rfl, hg⟩
    · exact ⟨none, 0, by rw [List.length_map, hn], by rw [List.length_map]; omega, fun j hj => by rw [List.length_map] at hj; omega⟩
    · refine ⟨some ⟨g, 0, none⟩, cap, by rw [List.length_map], by rw [List.length_map]; exact hg.2.2.1, fun j hj => ⟨_, rfl, ?_⟩⟩
      rw [List.length_map] at hj
      refine World.ownsRow.cells h (g := g) rfl j _ ?_
      unfold bv
      rw [List.getElem?_map, List.getElem?_eq_getElem hj, List.getElem_map]
      rfl
  · obtain ⟨b, hb1, rfl⟩ := List.mem_map.1 hx
    have := hb b hb1
    omega
/-- the bits that stand at a place, as numbers -/
theorem isrc_piece {w : World} {base g c a : Nat} {bs : List Nat} {L : List Nat} (h : w.ownsRow base 3 1 (.slice (some ⟨g, 0, none⟩) (8 * bs.length) c) (8 * bs.length) (bv (bitsOf bs))) (hl : bs.length ≤ 300) (hS : Sees bs a L) (c' : Nat) (hc : L.length ≤ c') :
    ISrc w (.slice (some ((⟨g, 0, none⟩ : Addr).add a)) L.length c') (L.map fun (b : Nat) => (b : Int)) := by
  have hbl := bitsOf_len bs
  have h1 : Bitrow w base (.slice (some ⟨g, 0, none⟩) (8 * bs.length) c) (bitsOf bs) := by unfold Bitrow; rw [hbl]; exact h
  have h2 := (isrc_bits h1 (bitsOf_le bs) (by omega)).sub a L.length (by rw [List.length_map, hbl]; exact hS.1) c' hc
  rw [← List.map_drop, ← List.map_take, hS.2] at h2
  exact h2
theorem Sees.le1 {bs : List Nat} {a : Nat} {L : List Nat} (h : Sees bs a L) : ∀ b ∈ L, b ≤ 1 := fun b hb => by
  rw [← h.2] at hb
  exact bitsOf_le bs b (List.mem_of_mem_drop (List.mem_of_mem_take hb))
end Go.Proofs.YteklfkpeaadinaaGreatDoor
