/-
  The document's Bytes, walked.
-/
import Derived.Test.YtekmebbioalpdaaDoorDBytes
namespace Go.Proofs.YtekmebbioalpdaaDoor
open Go.RowKit

/-- a sample is of a depth -/
def inV (k : Nat) (x : Int) : Prop := -(2 ^ k : Int) ≤ x ∧ x < 2 ^ k
theorem byte_of (x : Int) (j : Nat) (hj : j < 4) : x / 2 ^ (8 * j) % 256 = ((u64 x / 2 ^ (8 * j) % 256 : Nat) : Int) := by
  unfold u64
  obtain rfl | rfl | rfl | rfl : j = 0 ∨ j = 1 ∨ j = 2 ∨ j = 3 := by omega
  all_goals simp
  all_goals omega
def RbO (w : World) (size k : Nat) (xss : List (List Int)) (n0 : Nat) (s6 s7 : Value) (wr : World) : Prop :=
  ∃ i : Nat, i ≤ n0 ∧ s7 = iv i ∧ (∀ i', i' < i → ∀ j, (hj : j < xss.length) → inV k (xss[j].getD i' 0)) ∧ wr.ownsRow w.heap.size 5 1 s6 (byTo size xss i).length ((byTo size xss i).map byt) ∧ Only Nix w wr
def RbM (w : World) (size k : Nat) (xss : List (List Int)) (i : Nat) (s6 s8 : Value) (wr : World) : Prop :=
  ∃ k2 : Nat, k2 ≤ xss.length ∧ s8 = iv k2 ∧ (∀ j, (hj : j < xss.length) → j < k2 → inV k (xss[j].getD i 0)) ∧ wr.ownsRow w.heap.size 5 1 s6 (byTo size xss i ++ frB size xss i k2).length ((byTo size xss i ++ frB size xss i k2).map byt) ∧ Only Nix w wr
def RbN (w : World) (size : Nat) (BS : List Nat) (n5 : Nat) (x : Int) (s6 s10 : Value) (wr : World) : Prop :=
  ∃ j : Nat, j ≤ size ∧ s10 = .int .i64 ((8 * j : Nat) : Int) ∧ wr.ownsRow w.heap.size 5 1 s6 (n5 + j) ((BS ++ lf (u64 x) j).map byt) ∧ Only Nix w wr

/-- all samples are of a depth -/
def allD (k : Nat) (xss : List (List Int)) : Prop := ∀ j, (hj : j < xss.length) → inD k xss[j]
theorem byTo_lt (s : Nat) (xss : List (List Int)) : ∀ n, ∀ x ∈ byTo s xss n, x < 256
  | 0, x, h => by simp [byTo] at h
  | n + 1, x, h => by
    rw [byTo] at h
    rcases List.mem_append.1 h with h | h
    · exact byTo_lt s xss n x h
    · unfold frB at h
      obtain ⟨bs, hb, hx⟩ := List.mem_flatten.1 h
      obtain ⟨xs, _, rfl⟩ := List.mem_map.1 hb
      exact lf_lt _ _ x hx

set_option maxHeartbeats 2000000 in
theorem refBytes_any {w : World} (d : Int) (k : Nat) (hk : d = (k : Int) + 1) (size : Nat) (hsize : (k + 8) / 8 = size) (A : Option Addr) (m c : Nat) (xss : List (List Int)) (hx : Rws w (.slice A m c) xss) (h : okD d ∧ okC xss) (n0 : Nat) (hn0 : (xss.getD 0 []).length = n0) (hn40 : n0 ≤ 40) :
    Calls Tryd.prog 16 #[iv d, .slice A m c] w fun e w' => ((e = .returned (.tuple #[.slice none 0 0, .bool false]) ∧ ¬ allD k xss) ∨ (∃ v', e = .returned (.tuple #[v', .bool true]) ∧ (w'.ownsRow w.heap.size 5 1 v' (byTo size xss n0).length ((byTo size xss n0).map byt)) ∧ allD k xss)) ∧ Only Nix w w' := by
  obtain rfl := hx.len
  obtain ⟨⟨d4, d32⟩, h1, h8, hsame⟩ := h
  have HX := Lib.hid hx
  have hk32 : k < 32 := by omega
  have hsz4 : size ≤ 4 := by omega
  have Hs0 : Hid (∀ j, (hj : j < xss.length) → xss[j].length = n0) := Lib.hid (fun j hj => by rw [hsame j hj, hn0])
  have hbl : Hid (∀ i, i ≤ 40 → (byTo size xss i).length ≤ 1280) := Lib.hid (fun i hi => by
    rw [byTo_len]
    exact Nat.mul_le_mul hi (Nat.mul_le_mul h8 hsz4))
  have Hsz := Lib.hid hsize
  have hk8 : Hid (∀ j : Nat, j < size ↔ 8 * (j : Int) < d) := Lib.hid (fun j => by omega)
  clear hx hsame hn0 hsize
  obtain ⟨ad0, A0, c0, rfl, hx0, hs0⟩ := HX.out.at_ (k := 0) (by omega)
  rw [Addr.add_zero', Hs0.out] at hx0
  clear hs0
  have HN := Lib.hid (World.ownsRow_nil w w.heap.size 5 1)
  obtain ⟨P, hP⟩ : ∃ P : Nat, Hid (2 ^ k = P) := ⟨_, Lib.hid rfl⟩
  have hP2 : P ≤ 2147483648 := by rw [← hP.out]; exact Nat.pow_le_pow_right (by decide) (by omega : k ≤ 31)
  have hpw : (2 : Int) ^ k = (P : Int) := by rw [pow_cast, hP.out]
  have hw1 : IntKind.i64.wrap ((2 : Int) ^ k) = (P : Int) := by rw [hpw]; exact wraps_i64 _ (by omega) (by omega)
  have e1 : d - 1 = (k : Int) := by omega
  have HX0 : Hid (∀ u, Only Nix w u → u.cell? ad0 = some (.slice A0 n0 c0)) := Lib.hid (fun u o => cell_keep o hx0)
  clear hx0
  go_enter Tryd.func16, Tryd.ntmps16
  go_wp2
  go_loopw [6, 7] (fun s6 s7 wr => RbO w size k xss n0 s6 s7 wr) (fun _ s7 _ => n0 - (intOf s7).toNat)
  case atStart => exact ⟨0, by omega, rfl, fun _ h => by omega, HN.out, Only.refl _ _⟩
  case round =>
    obtain ⟨i, hi, rfl, hal, hO, ho⟩ := hrel
    obtain ⟨A5, c5, rfl⟩ := owns_slice hO
    have hx0 := HX0.out wr ho
    have Hal := Lib.hid hal
    have HO := Lib.hid hO
    clear hal hO
    by_cases hlti : i < n0
    · have hlti2 : (i : Int) < (n0 : Int) := by omega
      generalize hwo : wr = wo at *
      go_wp2
      go_loopw [6, 8] (fun s6 s8 wr => RbM w size k xss i s6 s8 wr) (fun _ s8 _ => xss.length - (intOf s8).toNat)
      case atStart =>
        refine ⟨0, by omega, rfl, fun _ _ h => by omega, ?_, ho⟩
        simpa [frB] using HO.out
      case round =>
        obtain ⟨k2, hk2, rfl, hal2, hO2, ho2⟩ := hrel
        obtain ⟨A6, c6, rfl⟩ := owns_slice hO2
        have Hal2 := Lib.hid hal2
        have HO2 := Lib.hid hO2
        clear hal2 hO2 hx0
        by_cases hltk : k2 < xss.length
        · obtain ⟨ad, A', c', e1', hxj, hsj⟩ := (HX.out.nix ho2).at_ hltk
          injection e1' with e1'
          subst e1'
          rw [Hs0.out] at hxj
          obtain ⟨ad2, e2, hxi⟩ := hsj.at_ (k := i) (by rw [Hs0.out]; exact hlti)
          subst e2
          have hft := hsj.fits _ (List.getElem_mem (by rw [Hs0.out]; exact hlti : i < xss[k2].length))
          have hgd : xss[k2].getD i 0 = xss[k2][i]'(by rw [Hs0.out]; exact hlti) := by rw [List.getD_eq_getElem?_getD, List.getElem?_eq_getElem]; rfl
          have Hst := Lib.hid (frB_step size xss i k2 hltk)
          have Hmem := Lib.hid (List.getElem_mem (by rw [Hs0.out]; exact hlti : i < xss[k2].length))
          rw [hgd] at Hst
          have Hgd := Lib.hid hgd
          clear hgd
          generalize xss[k2][i]'(by rw [Hs0.out]; exact hlti) = x at *
          have hltk2 : (k2 : Int) < (xss.length : Int) := by omega
          have hbn := by_bound size xss i k2 n0 hlti hk2
          have hbm := hbl.out n0 hn40
          clear hsj
          obtain ⟨n5, hn5⟩ : ∃ n5, Hid ((byTo size xss i ++ frB size xss i k2).length = n5) := ⟨_, Lib.hid rfl⟩
          rw [hn5.out] at HO2 hbn ⊢
          have hn5b : n5 ≤ 1280 := by omega
          by_cases hin : -(P : Int) ≤ x ∧ x < (P : Int)
          · obtain ⟨i1, i2⟩ := hin
            have q1 : ¬ x < -(P : Int) := by omega
            have q2 : ¬ (P : Int) ≤ x := by omega
            go_wp2
            generalize hwi : wr = wi at *
            obtain ⟨BS, hBS⟩ : ∃ BS, Hid (byTo size xss i ++ frB size xss i k2 = BS) := ⟨_, Lib.hid rfl⟩
            rw [hBS.out] at HO2
            go_loopw [6, 10] (fun s6 s10 wr => RbN w size BS n5 x s6 s10 wr) (fun _ s10 _ => 8 * size - (intOf s10).toNat)
            case atStart =>
              refine ⟨0, by omega, rfl, ?_, ho2⟩
              rw [lf, List.append_nil]
              exact HO2.out
            case round =>
              obtain ⟨j, hj, rfl, hO3, ho3⟩ := hrel
              obtain ⟨A7, c7, rfl⟩ := owns_slice hO3
              have h8 := hk8.out j
              have hsz3 := ho3.size
              by_cases hltj : j < size
              · have h9 : 8 * (j : Int) < d := h8.1 hltj
                obtain ⟨y, hy⟩ : ∃ y, Hid (u64 x / 2 ^ (8 * j) % 256 = y) := ⟨_, Lib.hid rfl⟩
                have hy256 : y < 256 := by rw [← hy.out]; exact Nat.mod_lt _ (by decide)
                have hyi : x / 2 ^ (8 * j) % 256 = (y : Int) := by rw [byte_of x j (by omega), hy.out]
                have a3 := (Only.refl Nix wr).alloc (.cells #[.int .u8 (y : Int)] 5)
                have HO4 := Lib.hid (owns_only hO3 a3 (fun _ _ e => e))
                have hst := Lib.hid (lf_step (u64 x) j BS)
                rw [hy.out] at hst
                obtain ⟨XS, hXS⟩ : ∃ XS, Hid ((BS ++ lf (u64 x) j).map byt = XS) := ⟨_, Lib.hid rfl⟩
                rw [hXS.out] at HO4 hst
                obtain ⟨m8, hm8⟩ : ∃ m8, 8 * j = m8 := ⟨_, rfl⟩
                rw [hm8] at hyi ⊢
                have hm8d : (m8 : Int) < d := by omega
                clear hO3 h9 h8
                go_wp2_with (at_builtin; refine wpList_append_bytes rfl (.tmp 50) (.tmp 55) rfl w.heap.size (.slice A7 (n5 + j) c7) (n5 + j) XS rfl HO4.out (some ⟨wr.heap.size, 0, none⟩) 1 1 [y] rfl (byt_src1 wr y hy256 5) (by omega) (by simp; omega) ?rest)
                case rest =>
                  intro v4 w4 hO5 hg5 _
                  have o5 : Only Nix w w4 := (ho3.trans a3).grown hg5 (fun k e => .inr (HO4.out.lt k e).1)
                  have hO5 : w4.ownsRow w.heap.size 5 1 v4 (n5 + j + 1) (XS ++ [y].map byt) := hO5
                  rw [hst.out] at hO5
                  have HO5 := Lib.hid hO5
                  clear hO5 hg5
                  go_wp2
                  go_roundw
                  case rel => exact ⟨j + 1, by omega, by congr 1; omega, HO5.out, o5⟩
                  case measure => simp [intOf]; omega
              · obtain rfl : j = size := by omega
                have h9 : ¬ 8 * (j : Int) < d := fun e => hltj (h8.2 e)
                obtain ⟨m8, hm8⟩ : ∃ m8, 8 * j = m8 := ⟨_, rfl⟩
                rw [hm8]
                have hm8d : ¬ (m8 : Int) < d := by omega
                have HO6 := Lib.hid hO3
                clear hO3 h9 h8
                go_wp2
                refine ⟨⟨_, _, _, _, ⟨k2 + 1, by omega, by go_num, fun j' hj' hjk => ?_, ?_, ho3⟩, rfl, rfl, rfl, rfl⟩, by simp [intOf]; omega⟩
                · by_cases e : j' = k2
                  · subst e; rw [Hgd.out]; unfold inV; rw [hpw]; exact ⟨i1, i2⟩
                  · exact Hal2.out j' hj' (by omega)
                · rw [Hst.out, ← List.append_assoc, len_app2 _ (lf (u64 x) j), lf_len, hn5.out, hBS.out]
                  exact HO6.out
          · have Hbad : Hid (¬ allD k xss) := by
              refine Lib.hid (fun hh => hin ?_)
              have := hh k2 hltk x Hmem.out
              rw [hpw] at this
              exact this
            by_cases q1 : x < -(P : Int)
            · clear hin
              go_wp2
              go_ret2
              exact ⟨.inl ⟨rfl, Hbad.out⟩, ho2⟩
            · have q2 : (P : Int) ≤ x := by omega
              clear hin
              go_wp2
              go_ret2
              exact ⟨.inl ⟨rfl, Hbad.out⟩, ho2⟩
        · obtain rfl : k2 = xss.length := by omega
          have hd0 : decide (xss.length < xss.length) = false := by simp
          have HO7 : Hid (wr.ownsRow w.heap.size 5 1 (.slice A6 (byTo size xss (i + 1)).length c6) (byTo size xss (i + 1)).length ((byTo size xss (i + 1)).map byt)) := Lib.hid HO2.out
          have hle : Hid ((byTo size xss i ++ frB size xss i xss.length).length = (byTo size xss (i + 1)).length) := Lib.hid rfl
          rw [hle.out]
          clear HO2
          obtain ⟨n7, hn7⟩ : ∃ n7, Hid ((byTo size xss (i + 1)).length = n7) := ⟨_, Lib.hid rfl⟩
          rw [hn7.out] at HO7 ⊢
          go_wp2
          refine ⟨⟨i + 1, by omega, by go_num, fun i' hi' j hj => ?_, ?_, ho2⟩, by simp [intOf]; omega⟩
          · by_cases e : i' = i
            · subst e; exact Hal2.out j hj hj
            · exact Hal.out i' (by omega) j hj
          · rw [hn7.out]; exact HO7.out
    · obtain rfl : i = n0 := by omega
      have hd0 : decide (i < i) = false := by simp
      obtain ⟨n7, hn7⟩ : ∃ n7, Hid ((byTo size xss i).length = n7) := ⟨_, Lib.hid rfl⟩
      rw [hn7.out] at HO ⊢
      go_wp2
      go_ret2
      refine ⟨.inr ⟨_, rfl, ?_, fun j hj x hx => ?_⟩, ho⟩
      · rw [hn7.out]; exact HO.out
      · obtain ⟨i', hi', rfl⟩ := List.mem_iff_getElem.1 hx
        have := Hal.out i' (by rw [Hs0.out] at hi'; exact hi') j hj
        rw [List.getD_eq_getElem?_getD, List.getElem?_eq_getElem hi'] at this
        exact this
end Go.Proofs.YtekmebbioalpdaaDoor
