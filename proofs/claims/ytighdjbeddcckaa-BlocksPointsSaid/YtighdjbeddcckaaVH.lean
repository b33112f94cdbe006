/-
  WritePoints: the bytes of points.
-/
import Derived.Test.YtighdjbeddcckaaVG
import Derived.Laws.MakeOwn
namespace Go.Proofs.Ytighdjbeddcckaa
open Go.RowKit Go.Shelf

theorem makes (u : World) (base N : Nat) (hb : base ≤ u.heap.size) (hN : N ≤ 1000000) :
    (Go.Instr.makeSlice 22 (.int .i64 0) (.int .i64 (N : Int))).run Try.prog u = .ok (.slice (some ⟨u.heap.size, 0, none⟩) 0 N) (u.alloc (.cells (madeCells #[.int .u8 0] N) 5)) ∧
    Owns (u.alloc (.cells (madeCells #[.int .u8 0] N) 5)) base 5 byt (.slice (some ⟨u.heap.size, 0, none⟩) 0 N) [] := by
  obtain ⟨i0, hi, hz0, hz1, hz2⟩ := info_parts Try.info_byte
  obtain ⟨w', h1, h2, _⟩ := run_make_own u base 22 5 i0 (.int .u8 0) 1 Try.underlying22 hi hz0 hz1 .i64 .i64 N (by rw [hz2]; omega) (by unfold maxLen; omega) hb
  have h3 := run_make u 22 5 i0 (.int .u8 0) Try.underlying22 hi hz0 .i64 .i64 0 N (by omega) (by omega) (by rw [hz2]; omega) (by omega)
  rw [hz1] at h3
  rw [h1] at h3
  rw [Int.toNat_natCast, Nat.mul_one] at h3
  injection h3 with _ e
  subst e
  exact ⟨h1, h2⟩
/-- a number of 64 bits, without its sign -/
def u64n (x : Int) : Nat := (x % 18446744073709551616).toNat
theorem u64n_wrap (x : Int) : IntKind.u64.wrap x = ((u64n x : Nat) : Int) := by rw [IntKind.wrap_u64]; unfold u64n; omega
theorem u64n_lt (x : Int) : u64n x < 18446744073709551616 := by unfold u64n; omega
/-- a point's bytes -/
def ptB (p : Pt) : List Nat := be 8 (u64n p.1) ++ (be 8 (u64n p.2.1) ++ be 2 (u64n p.2.2))
def pts (l : List Pt) : List Nat := (l.map ptB).flatten
theorem ptB_len (p : Pt) : (ptB p).length = 18 := by simp [ptB, be_len]
theorem pts_len : ∀ l : List Pt, (pts l).length = 18 * l.length
  | [] => rfl
  | p :: l => by
    have := pts_len l
    unfold pts at *
    rw [List.map_cons, List.flatten_cons, List.length_append, ptB_len, this, List.length_cons]
    omega
theorem pts_take {l : List Pt} {j : Nat} (h : j < l.length) : pts (l.take (j + 1)) = pts (l.take j) ++ ptB l[j] := by
  unfold pts
  rw [List.take_succ_eq_append_getElem h, List.map_append, List.flatten_append]
  simp
theorem pts_lt (l : List Pt) : ∀ x ∈ pts l, x < 256 := fun x hx => by
  unfold pts at hx
  obtain ⟨b, hb, hx⟩ := List.mem_flatten.1 hx
  obtain ⟨p, _, rfl⟩ := List.mem_map.1 hb
  unfold ptB at hx
  simp only [List.mem_append] at hx
  rcases hx with h | h | h
  all_goals exact be_lt _ _ _ h
/-- what WritePoints answers -/
def WpR (w : World) (l : List Pt) (e : Ending) (w' : World) : Prop := (∃ v, e = .returned (.tuple #[v, iv (orE l)]) ∧ Owns w' w.heap.size 5 byt v (if orE l = 0 then pts l else [])) ∧ Only Nix w w'
def WpL (W : World) (B : Nat) (l : List Pt) (s5 s22 : Value) (wr : World) : Prop := ∃ j : Nat, j ≤ l.length ∧ s22 = iv j ∧ Owns wr B 5 byt s5 (pts (l.take j)) ∧ Only Nix W wr
theorem orE_cases (l : List Pt) : orE l = 0 ∨ orE l = 10 ∨ orE l = 18 := by
  unfold orE
  split
  · split <;> simp
  · simp
set_option maxRecDepth 100000 in
set_option maxHeartbeats 8000000 in
theorem writePoints_any {w : World} {A : Option Addr} {n c : Nat} {l : List Pt} (hs : TSrc w (.slice A n c) l) (hn : l.length ≤ 1000) : Calls Try.prog 17 #[.slice A n c] w fun e w' => WpR w l e w' := by
  have hlen := hs.len
  have HS := Lib.hid hs
  subst hlen
  have HE := Lib.hid (inOrder_any hs)
  clear hs
  by_cases h0 : orE l = 0
  · have HR : Hid (∀ v w', Owns w' w.heap.size 5 byt v (pts l) → Only Nix w w' → WpR w l (.returned (.tuple #[v, iv 0])) w') := Lib.hid (fun v w' h1 h2 => ⟨⟨v, by rw [h0], by rw [if_pos h0]; exact h1⟩, h2⟩)
    rw [h0] at HE
    clear h0
    go_enter Try.func17, Try.ntmps17
    go_wp2_with fail
    refine (HE.out).mono ?_
    rintro e w2 ⟨rfl, o2⟩
    have HO2 := Lib.hid o2
    obtain ⟨N, hN⟩ : ∃ N : Nat, l.length * 18 = N := ⟨_, rfl⟩
    have hNi : (l.length : Int) * 18 = (N : Int) := by omega
    have hN6 : N ≤ 1000000 := by omega
    have hmk := (makes w2 w.heap.size N o2.size hN6).1
    have hM3 := Lib.hid (makes w2 w.heap.size N o2.size hN6).2
    have hO3 := Lib.hid (o2.alloc (.cells (madeCells #[.int .u8 0] N) 5))
    obtain ⟨W3, hW3⟩ : ∃ W3, w2.alloc (.cells (madeCells #[.int .u8 0] N) 5) = W3 := ⟨_, rfl⟩
    rw [hW3] at hmk hM3 hO3
    have HSl := Lib.hid (fun (j : Nat) (h : j < l.length) => pts_take h)
    have HLn : Hid (∀ j : Nat, (pts (l.take j)).length ≤ 18000) := Lib.hid (fun j => by rw [pts_len, List.length_take]; omega)
    clear o2 hN
    have hli : ¬ (932067 : Int) < (l.length : Int) := by omega
    go_wp2
    go_loopw [5, 22] (fun s5 s22 wr => WpL w w.heap.size l s5 s22 wr) (fun _ s22 _ => l.length - (intOf s22).toNat)
    case atStart => exact ⟨0, Nat.zero_le _, rfl, by simpa [pts] using hM3.out, hO3.out⟩
    case round =>
      obtain ⟨j, hj, rfl, hown, ho⟩ := hrel
      have HW := Lib.hid hown
      have HO := Lib.hid ho
      clear hown ho
      by_cases hlt : j < l.length
      · obtain ⟨ad, rfl, hx0, hx1, hx2⟩ := (HS.out.nix HO.out).at_ hlt
        have hlti : (j : Int) < (l.length : Int) := by omega
        have HT := Lib.hid (HSl.out j hlt)
        have hbL := HLn.out j
        have HbL := Lib.hid hbL
        have HOb := Lib.hid (HO.out.size)
        have hw0 := u64n_wrap l[j].1
        have hw1 := u64n_wrap l[j].2.1
        have hw2 := u64n_wrap l[j].2.2
        have HBx := Lib.hid (Box.new wr 53 #[iv l[j].1, iv l[j].2.1, iv l[j].2.2])
        have HO1 := Lib.hid (HO.out.alloc (.cells #[iv l[j].1, iv l[j].2.1, iv l[j].2.2] 53))
        have HW1 : Hid (Owns (wr.alloc (.cells #[iv l[j].1, iv l[j].2.1, iv l[j].2.2] 53)) w.heap.size 5 byt u5 (pts (l.take j))) := Lib.hid (HW.out.nix ((Only.refl Nix wr).alloc _))
        have HNr : Hid (¬ Row u5 wr.heap.size) := Lib.hid (fun h => by have := (HW.out.lt h).2; omega)
        have HV0 : Hid (∀ g, u5.ownBlock = some g → w.heap.size ≤ g) := Lib.hid (fun g hg => (HW.out.lt hg).1)
        unfold ptB at HT
        generalize l[j] = P at *
        obtain ⟨p, q, r⟩ := P
        simp only at hx0 hx1 hx2 hw0 hw1 hw2 HBx HO1 HT HW1
        obtain ⟨W4, hW4⟩ : ∃ W4, wr.alloc (.cells #[iv p, iv q, iv r] 53) = W4 := ⟨_, rfl⟩
        rw [hW4] at HBx HO1 HW1
        have b0 := HBx.out.cell 0
        simp only [List.getElem?_toArray, List.getElem?_cons_zero] at b0
        have HP0 : Hid (Calls Try.prog 29 #[u5, .int .i64 8, .int .u64 ((u64n p : Nat) : Int)] W4 fun e w' => PutR W4 w.heap.size u5 (pts (l.take j)) 8 (u64n p) e w') := Lib.hid (put_any 8 (u64n p) HW1.out HO1.out.size (by decide) (u64n_lt _) (by have := HbL.out; omega))
        clear hbL
        go_wp2_with fail
        refine (HP0.out).mono ?_
        rintro e y0 ⟨v0, rfl, r0, k0, m0⟩
        have HO0 := Lib.hid (row_nix HO1.out k0 HV0.out)
        have HB0 := Lib.hid (HBx.out.only k0 HNr.out)
        have HV1 := Lib.hid (m0.from_ HO1.out.size HV0.out)
        have HN1 : Hid (¬ Row v0 wr.heap.size) := Lib.hid (fun h => by
          rcases m0 with m | m
          · exact HNr.out (m.symm.trans h)
          · have := m _ h
            have h2 := HBx.out.lt
            omega)
        have b1 := HB0.out.cell 1
        simp only [List.getElem?_toArray, List.getElem?_cons_zero, List.getElem?_cons_succ] at b1
        have HP1 : Hid (Calls Try.prog 29 #[v0, .int .i64 8, .int .u64 ((u64n q : Nat) : Int)] y0 fun e w' => PutR y0 w.heap.size v0 (pts (l.take j) ++ be 8 (u64n p)) 8 (u64n q) e w') := Lib.hid (put_any 8 (u64n q) r0 HO0.out.size (by decide) (u64n_lt _) (by have := HbL.out; simp only [List.length_append, be_len]; omega))
        clear r0 k0 m0 b0 HP0
        go_wp2_with fail
        refine (HP1.out).mono ?_
        rintro e y1 ⟨v1, rfl, r1, k1, m1⟩
        have HO1' := Lib.hid (row_nix HO0.out k1 HV1.out)
        have HB1 := Lib.hid (HB0.out.only k1 HN1.out)
        have HV2 := Lib.hid (m1.from_ HO0.out.size HV1.out)
        have b2 := HB1.out.cell 2
        simp only [List.getElem?_toArray, List.getElem?_cons_zero, List.getElem?_cons_succ] at b2
        have HP2 : Hid (Calls Try.prog 29 #[v1, .int .i64 2, .int .u64 ((u64n r : Nat) : Int)] y1 fun e w' => PutR y1 w.heap.size v1 (pts (l.take j) ++ be 8 (u64n p) ++ be 8 (u64n q)) 2 (u64n r) e w') := Lib.hid (put_any 2 (u64n r) r1 HO1'.out.size (by decide) (u64n_lt _) (by have := HbL.out; simp only [List.length_append, be_len]; omega))
        clear r1 k1 m1 b1 HP1
        go_wp2_with fail
        refine (HP2.out).mono ?_
        rintro e y2 ⟨v2, rfl, r2, k2, m2⟩
        have HO2' := Lib.hid (row_nix HO1'.out k2 HV2.out)
        have HR2 := Lib.hid r2
        clear r2 k2 m2 b2 HP2
        go_wp2
        go_roundw
        case rel => exact ⟨j + 1, hlt, by go_num, by rw [HT.out]; simpa using HR2.out, HO2'.out⟩
        case measure => simp [intOf]; omega
      · obtain rfl : j = l.length := by omega
        have HTk : Hid (l.take l.length = l) := Lib.hid (List.take_of_length_le (Nat.le_refl _))
        have HWn : Hid (Owns wr w.heap.size 5 byt u5 (pts l)) := Lib.hid (by have := HW.out; rwa [HTk.out] at this)
        clear HW
        go_wp2
        go_ret2
        exact HR.out _ _ HWn.out HO.out
  · have HR : Hid (∀ w', Only Nix w w' → WpR w l (.returned (.tuple #[.slice none 0 0, iv (orE l)])) w') := Lib.hid (fun w' h2 => ⟨⟨_, rfl, by rw [if_neg h0]; exact Owns.nil _ _ _ _⟩, h2⟩)
    have hc : orE l = 10 ∨ orE l = 18 := (orE_cases l).resolve_left h0
    generalize orE l = E at *
    rcases hc with rfl | rfl
    all_goals
      go_enter Try.func17, Try.ntmps17
      go_wp2_with fail
      refine (HE.out).mono ?_
      rintro e w2 ⟨rfl, o2⟩
      have HO2 := Lib.hid o2
      clear o2 h0
      go_wp2
      go_ret2
      exact HR.out _ HO2.out
end Go.Proofs.Ytighdjbeddcckaa
