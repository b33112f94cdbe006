/-
  The document's sines, turns, word, Padded: walked.
-/
import Derived.Test.YtekmebbioalpdaaDoorDSum
namespace Go.Proofs.YtekmebbioalpdaaDoor
open Go.RowKit

set_option maxRecDepth 10000 in
set_option maxHeartbeats 1000000 in
theorem sines_any (w : World) : Calls Tryd.prog 19 #[] w fun e w' => e = .returned (.slice (some ⟨w.heap.size, 0, none⟩) 64 64) ∧ Box w' w.heap.size 47 (KS.map wv).toArray ∧ Only Nix w w' := by
  go_enter Tryd.func19, Tryd.ntmps19
  go_wp2
  go_ret
  exact ⟨rfl, Box.new _ _ _, (Only.refl _ _).alloc _⟩

theorem turns_lit : ∀ j, j < 16 → (#[Value.int .i64 7, .int .i64 12, .int .i64 17, .int .i64 22, .int .i64 5, .int .i64 9, .int .i64 14, .int .i64 20, .int .i64 4, .int .i64 11, .int .i64 16, .int .i64 23, .int .i64 6, .int .i64 10, .int .i64 15, .int .i64 21] : Array Value)[j]? = some (iv (TS.getD j 0 : Nat)) := by
  intro j hj
  obtain rfl | rfl | rfl | rfl | rfl | rfl | rfl | rfl | rfl | rfl | rfl | rfl | rfl | rfl | rfl | rfl : j = 0 ∨ j = 1 ∨ j = 2 ∨ j = 3 ∨ j = 4 ∨ j = 5 ∨ j = 6 ∨ j = 7 ∨ j = 8 ∨ j = 9 ∨ j = 10 ∨ j = 11 ∨ j = 12 ∨ j = 13 ∨ j = 14 ∨ j = 15 := by omega
  all_goals rfl
set_option maxHeartbeats 1000000 in
theorem turns_any {w : World} (i : Nat) (hi : i < 64) : Calls Tryd.prog 21 #[iv i] w fun e w' => e = .returned (iv (TS.getD (i / 16 * 4 + i % 4) 0 : Nat)) ∧ Only Nix w w' := by
  obtain ⟨e, m, hem⟩ : ∃ e m : Nat, Hid (i / 16 = e ∧ i % 4 = m) := ⟨_, _, Lib.hid ⟨rfl, rfl⟩⟩
  have he4 : e < 4 := by have := hem.out; omega
  have hm4 : m < 4 := by have := hem.out; omega
  have we : (i : Int) / 16 = (e : Int) := by have := hem.out; omega
  have wm : (i : Int).tmod 4 = (m : Int) := by rw [Int.tmod_eq_emod_of_nonneg (by omega)]; have := hem.out; omega
  have hlt := turns_lit (e * 4 + m) (by omega)
  rw [hem.out.1, hem.out.2]
  generalize TS.getD (e * 4 + m) 0 = T at *
  have hcell : (w.alloc (.cells #[.int .i64 7, .int .i64 12, .int .i64 17, .int .i64 22, .int .i64 5, .int .i64 9, .int .i64 14, .int .i64 20, .int .i64 4, .int .i64 11, .int .i64 16, .int .i64 23, .int .i64 6, .int .i64 10, .int .i64 15, .int .i64 21] 3)).cell? ⟨w.heap.size, e * 4 + m, none⟩ = some (iv (T : Nat)) := by
    rw [(Box.new w 3 _).cell]; exact hlt
  have hem5 : (e : Int) * 4 + (m : Int) < 16 := by omega
  have hem6 : (0 : Int) ≤ (e : Int) * 4 + (m : Int) := by omega
  have hem7 : ((e : Int) * 4 + (m : Int)).toNat = e * 4 + m := by omega
  go_enter Tryd.func21, Tryd.ntmps21
  go_wp2
  go_ret
  exact ⟨rfl, (Only.refl _ _).alloc _⟩

theorem word4 (a b c d : Nat) (ha : a < 256) (hb : b < 256) (hc : c < 256) (hd : d < 256) :
    bits .or .u32 (bits .or .u32 (bits .or .u32 (a : Int) ((b : Int) * 2 ^ 8 % 4294967296)) ((c : Int) * 2 ^ 16 % 4294967296)) ((d : Int) * 2 ^ 24 % 4294967296) = ((a + 256 * b + 65536 * c + 16777216 * d : Nat) : Int) := by
  rw [word_or a b 8 (by omega) hb (by omega), word_or _ c 16 (by omega) hc (by omega), word_or _ d 24 (by omega) hd (by omega)]
  omega
set_option maxHeartbeats 1000000 in
theorem word_any {w : World} (ad : Addr) (c : Nat) (a b x y : Nat) (hs : Src w (.slice (some ad) 4 c) [a, b, x, y]) :
    Calls Tryd.prog 20 #[.slice (some ad) 4 c] w fun e w' => e = .returned (.int .u32 ((a + 256 * b + 65536 * x + 16777216 * y : Nat) : Int)) ∧ ∃ n, w' = w.drewN n := by
  obtain ⟨ad', e, h0⟩ := hs.at_ (k := 0) (by simp)
  injection e with e
  subst e
  obtain ⟨ad', e, h1⟩ := hs.at_ (k := 1) (by simp)
  injection e with e
  subst e
  obtain ⟨ad', e, h2⟩ := hs.at_ (k := 2) (by simp)
  injection e with e
  subst e
  obtain ⟨ad', e, h3⟩ := hs.at_ (k := 3) (by simp)
  injection e with e
  subst e
  have l0 := hs.lt a (by simp)
  have l1 := hs.lt b (by simp)
  have l2 := hs.lt x (by simp)
  have l3 := hs.lt y (by simp)
  simp only [List.getElem_cons_zero, List.getElem_cons_succ, byt] at h0 h1 h2 h3
  rw [Addr.add_zero'] at h0
  have q1 : w.cell? ⟨ad.block, ad.off + 1, none⟩ = some (.int .u8 (b : Int)) := h1
  have q2 : w.cell? ⟨ad.block, ad.off + 2, none⟩ = some (.int .u8 (x : Int)) := h2
  have q3 : w.cell? ⟨ad.block, ad.off + 3, none⟩ = some (.int .u8 (y : Int)) := h3
  have wa : IntKind.u32.wrap (a : Int) = (a : Int) := by rw [IntKind.wrap_u32]; omega
  have wb : IntKind.u32.wrap (b : Int) = (b : Int) := by rw [IntKind.wrap_u32]; omega
  have wx : IntKind.u32.wrap (x : Int) = (x : Int) := by rw [IntKind.wrap_u32]; omega
  have wy : IntKind.u32.wrap (y : Int) = (y : Int) := by rw [IntKind.wrap_u32]; omega
  have hw : Hid (bits .or .u32 (bits .or .u32 (bits .or .u32 (a : Int) ((b : Int) * 256)) ((x : Int) * 65536)) ((y : Int) * 16777216) = ((a + 256 * b + 65536 * x + 16777216 * y : Nat) : Int)) := by
    refine Lib.hid ?_
    have := word4 a b x y l0 l1 l2 l3
    rw [show (b : Int) * 2 ^ 8 % 4294967296 = (b : Int) * 256 from by omega, show (x : Int) * 2 ^ 16 % 4294967296 = (x : Int) * 65536 from by omega, show (y : Int) * 2 ^ 24 % 4294967296 = (y : Int) * 16777216 from by omega] at this
    exact this
  clear hs
  go_enter Tryd.func20, Tryd.ntmps20
  go_wp2
  go_quiet (fail)
  go_wp2
  go_ret
  exact ⟨congrArg (fun z => Ending.returned (.int .u32 z)) hw.out, _, rfl⟩

def Pad1P (w : World) (bs : List Nat) (s3 : Value) (wr : World) : Prop :=
  ∃ z : Nat, z ≤ zeros bs.length ∧ wr.ownsRow w.heap.size 5 1 s3 (bs.length + 1 + z) ((bs ++ (128 :: List.replicate z 0)).map byt) ∧ Only Nix w wr
def Pad2P (w : World) (bs : List Nat) (s3 s5 : Value) (wr : World) : Prop :=
  ∃ j : Nat, j ≤ 8 ∧ s5 = iv j ∧ wr.ownsRow w.heap.size 5 1 s3 (bs.length + 1 + zeros bs.length + j) ((bs ++ (128 :: List.replicate (zeros bs.length) 0) ++ lf (8 * bs.length) j).map byt) ∧ Only Nix w wr
theorem zeros_at (n z : Nat) (hz : z ≤ zeros n) : (n + 1 + z) % 64 = 56 ↔ z = zeros n := by unfold zeros at *; omega
theorem pad_len (bs : List Nat) (z : Nat) : (bs ++ (128 :: List.replicate z 0)).length = bs.length + 1 + z := by simp; omega

set_option maxHeartbeats 2000000 in
theorem padded_any {w : World} (A : Option Addr) (c : Nat) (bs : List Nat) (hs : Src w (.slice A bs.length c) bs) (hb : bs.length ≤ 600) :
    Calls Tryd.prog 18 #[.slice A bs.length c] w fun e w' => ∃ v', e = .returned v' ∧ w'.ownsRow w.heap.size 5 1 v' (bs ++ tail_ bs.length).length ((bs ++ tail_ bs.length).map byt) ∧ Only Nix w w' := by
  have HS := Lib.hid hs
  clear hs
  have HN := Lib.hid (World.ownsRow_nil w w.heap.size 5 1)
  go_enter Tryd.func18, Tryd.ntmps18
  go_wp2_with (at_builtin; refine wpList_append_bytes rfl (.tmp 6) (.tmp 7) rfl w.heap.size (.slice none 0 0) 0 [] rfl HN.out A bs.length c bs rfl HS.out (by omega) (Nat.le_refl _) ?rest)
  case rest =>
    intro v1 w1 hO1 hg1 _
    have o1 : Only Nix w w1 := (Only.refl Nix w).grown hg1 (fun k e => by cases e)
    obtain ⟨A1, c1, rfl⟩ := owns_slice hO1
    have a1 := (Only.refl Nix w1).alloc (.cells #[.int .u8 128] 5)
    have HO1 := Lib.hid (owns_only hO1 a1 (fun _ _ e => e))
    have hz1 := o1.size
    clear hO1 hg1
    go_wp2_with (at_builtin; refine wpList_append_bytes rfl (.tmp 9) (.tmp 10) rfl w.heap.size (.slice A1 bs.length c1) bs.length (bs.map byt) rfl HO1.out (some ⟨w1.heap.size, 0, none⟩) 1 1 [128] rfl (byt_src1 w1 128 (by decide) 5) (by omega) (by simp; omega) ?rest2)
    case rest2 =>
      intro v2 w2 hO2 hg2 _
      have o2 : Only Nix w w2 := (o1.trans a1).grown hg2 (fun k e => .inr (HO1.out.lt k e).1)
      have hO2 : w2.ownsRow w.heap.size 5 1 v2 (bs.length + 1) (bs.map byt ++ [128].map byt) := hO2
      rw [← List.map_append] at hO2
      have HO2 := Lib.hid hO2
      clear hO2 hg2
      go_wp2
      go_loopw [3] (fun s3 wr => Pad1P w bs s3 wr) (fun s3 _ => bs.length + 1 + zeros bs.length - lenOf s3)
      case atStart => exact ⟨0, Nat.zero_le _, HO2.out, o2⟩
      case round =>
        obtain ⟨z, hz, hO, ho⟩ := hrel
        obtain ⟨A3, c3, rfl⟩ := owns_slice hO
        have hza := zeros_at bs.length z hz
        obtain ⟨Z, hZ⟩ : ∃ Z, Hid (zeros bs.length = Z) := ⟨_, Lib.hid rfl⟩
        rw [hZ.out] at hz hza
        have hZ64 : Z < 64 := by rw [← hZ.out]; unfold zeros; omega
        have hsz := ho.size
        by_cases hlt : z < Z
        · have hm : ((bs.length : Int) + 1 + (z : Int)).tmod 64 ≠ 56 := by
            rw [Int.tmod_eq_emod_of_nonneg (by omega)]; omega
          have a3 := (Only.refl Nix wr).alloc (.cells #[.int .u8 0] 5)
          have HO3 := Lib.hid (owns_only hO a3 (fun _ _ e => e))
          obtain ⟨XS, hXS⟩ : ∃ XS, Hid ((bs ++ (128 :: List.replicate z 0)).map byt = XS) := ⟨_, Lib.hid rfl⟩
          have hst : Hid (XS ++ [0].map byt = (bs ++ (128 :: List.replicate (z + 1) 0)).map byt) := Lib.hid (by rw [← hXS.out, ← List.map_append, List.append_assoc, List.cons_append, List.replicate_succ'])
          rw [hXS.out] at HO3
          obtain ⟨n3, hn3⟩ : ∃ n3, Hid (bs.length + 1 + z = n3) := ⟨_, Lib.hid rfl⟩
          have hn3b : n3 ≤ 1000 := by rw [← hn3.out]; omega
          obtain ⟨s6, hs6⟩ : ∃ s6, Hid (n3 % 64 = s6) := ⟨_, Lib.hid rfl⟩
          have hm2 : (n3 : Int).tmod 64 = (s6 : Int) := by rw [Int.tmod_eq_emod_of_nonneg (by omega), ← hs6.out]; omega
          have hs7 : ¬ s6 = 56 := by
            rw [← hs6.out, ← hn3.out]
            intro e
            exact hm (by rw [Int.tmod_eq_emod_of_nonneg (by omega)]; omega)
          have hm3 : ((s6 : Int) != 56) = true := by simp; omega
          rw [hn3.out] at HO3 ⊢
          clear hO hm hza
          go_wp2_with (at_builtin; refine wpList_append_bytes rfl (.tmp 16) (.tmp 17) rfl w.heap.size (.slice A3 n3 c3) n3 XS rfl HO3.out (some ⟨wr.heap.size, 0, none⟩) 1 1 [0] rfl (byt_src1 wr 0 (by decide) 5) (by omega) (by simp; omega) ?rest3)
          case rest3 =>
            intro v4 w4 hO4 hg4 _
            have o4 : Only Nix w w4 := (ho.trans a3).grown hg4 (fun k e => .inr (HO3.out.lt k e).1)
            have hO4 : w4.ownsRow w.heap.size 5 1 v4 (n3 + 1) (XS ++ [0].map byt) := hO4
            rw [hst.out] at hO4
            obtain ⟨A4, c4, rfl⟩ := owns_slice hO4
            have HO4 := Lib.hid hO4
            clear hO4 hg4
            go_wp2
            refine ⟨⟨z + 1, by rw [hZ.out]; omega, ?_, o4⟩, by simp [lenOf]; have := hn3.out; have := hZ.out; omega⟩
            have := hn3.out
            rw [show bs.length + 1 + (z + 1) = n3 + 1 from by omega]
            exact HO4.out
        · obtain rfl : z = Z := by omega
          have hm : ((bs.length : Int) + 1 + (z : Int)).tmod 64 = 56 := by
            rw [Int.tmod_eq_emod_of_nonneg (by omega)]; have := hza.2 rfl; omega
          obtain ⟨n3, hn3⟩ : ∃ n3, Hid (bs.length + 1 + z = n3) := ⟨_, Lib.hid rfl⟩
          have hn3b : n3 ≤ 1000 := by rw [← hn3.out]; omega
          have hm2 : (n3 : Int).tmod 64 = 56 := by rw [← hn3.out]; exact hm
          have HO3 := Lib.hid hO
          rw [hn3.out] at HO3 ⊢
          clear hO hm hza
          generalize hwo : wr = wo at *
          go_wp2
          go_loopw [3, 5] (fun s3 s5 wr => Pad2P w bs s3 s5 wr) (fun _ s5 _ => 8 - (intOf s5).toNat)
          case atStart =>
            refine ⟨0, by omega, rfl, ?_, ho⟩
            rw [hZ.out, hn3.out, lf, List.append_nil]
            exact HO3.out
          case round =>
            obtain ⟨j, hj, rfl, hO, ho2⟩ := hrel
            rw [hZ.out, hn3.out] at hO
            obtain ⟨A5, c5, rfl⟩ := owns_slice hO
            have hsz2 := ho2.size
            by_cases hlt : j < 8
            · have hlt2 : (j : Int) < 8 := by omega
              obtain ⟨x, hx⟩ : ∃ x, Hid ((8 * bs.length) / 2 ^ (8 * j) % 256 = x) := ⟨_, Lib.hid rfl⟩
              have hx256 : x < 256 := by rw [← hx.out]; exact Nat.mod_lt _ (by decide)
              have hxi : ((bs.length : Int) * 8) / 2 ^ (8 * j) % 256 = (x : Int) := by
                rw [← hx.out, pow_cast, show (bs.length : Int) * 8 = ((8 * bs.length : Nat) : Int) from by omega, ← Int.natCast_ediv]; omega
              have a5 := (Only.refl Nix wr).alloc (.cells #[.int .u8 (x : Int)] 5)
              have HO5 := Lib.hid (owns_only hO a5 (fun _ _ e => e))
              have hst := Lib.hid (lf_step (8 * bs.length) j (bs ++ (128 :: List.replicate z 0)))
              rw [hx.out] at hst
              obtain ⟨XS, hXS⟩ : ∃ XS, Hid ((bs ++ (128 :: List.replicate z 0) ++ lf (8 * bs.length) j).map byt = XS) := ⟨_, Lib.hid rfl⟩
              rw [hXS.out] at HO5 hst
              clear hO
              go_wp2_with (at_builtin; refine wpList_append_bytes rfl (.tmp 27) (.tmp 33) rfl w.heap.size (.slice A5 (n3 + j) c5) (n3 + j) XS rfl HO5.out (some ⟨wr.heap.size, 0, none⟩) 1 1 [x] rfl (byt_src1 wr x hx256 5) (by omega) (by simp; omega) ?rest5)
              case rest5 =>
                intro v6 w6 hO6 hg6 _
                have o6 : Only Nix w w6 := (ho2.trans a5).grown hg6 (fun k e => .inr (HO5.out.lt k e).1)
                have hO6 : w6.ownsRow w.heap.size 5 1 v6 (n3 + j + 1) (XS ++ [x].map byt) := hO6
                rw [hst.out] at hO6
                have HO6 := Lib.hid hO6
                clear hO6 hg6
                go_wp2
                go_roundw
                case rel =>
                  refine ⟨j + 1, by omega, by go_num, ?_, o6⟩
                  rw [hZ.out, hn3.out]
                  exact HO6.out
                case measure => simp [intOf]; omega
            · obtain rfl : j = 8 := by omega
              have HO5 := Lib.hid hO
              clear hO
              go_wp2
              go_ret
              refine ⟨_, rfl, ?_, ho2⟩
              rw [List.length_append, tail_len, hZ.out, ← tail_is, hZ.out, ← List.append_assoc, show bs.length + (1 + z + 8) = n3 + 8 from by have := hn3.out; omega]
              exact HO5.out
end Go.Proofs.YtekmebbioalpdaaDoor
