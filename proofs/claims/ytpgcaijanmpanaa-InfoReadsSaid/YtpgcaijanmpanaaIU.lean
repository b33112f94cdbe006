/-
  put, and Write.
-/
import Derived.Test.YtpgcaijanmpanaaIP
import Derived.Test.YtpgcaijanmpanaaIQ
namespace Go.Proofs.Ytpgcaijanmpanaa
open Go.RowKit Go.Shelf

/-- blocks from here on -/
def From (b k : Nat) : Prop := b ≤ k
theorem from_nix {W w w' : World} (h : Only Nix W w) (ho : Only (From W.heap.size) w w') : Only Nix W w' := h.then ho (fun i e => .inr e)
def PutRel (w : World) (base : Nat) (xs : List Nat) (m n : Nat) (s0 s7 : Value) (wr : World) : Prop :=
  ∃ j : Nat, j ≤ m ∧ s7 = iv ((m : Int) - 1 - (j : Int)) ∧ Owns wr base 5 byt s0 (xs ++ (be m n).take j) ∧ Only (From base) w wr
def PutR (w : World) (base : Nat) (xs : List Nat) (m n : Nat) (e : Ending) (w' : World) : Prop := ∃ v', e = .returned v' ∧ Owns w' base 5 byt v' (xs ++ be m n) ∧ Only (From base) w w'
set_option maxHeartbeats 4000000 in
theorem put_any {w : World} {base : Nat} {v : Value} {xs : List Nat} (m n : Nat) (hown : Owns w base 5 byt v xs) (hb : base ≤ w.heap.size) (hm : m ≤ 8) (_hn : n < 18446744073709551616) (hx : xs.length ≤ 1000) :
    Calls Try.prog 23 #[v, iv m, .int .u64 (n : Int)] w fun e w' => PutR w base xs m n e w' := by
  have HOwn := Lib.hid hown
  clear hown
  go_enter Try.func23, Try.ntmps23
  go_wp2
  go_loopw [0, 7] (fun s0 s7 wr => PutRel w base xs m n s0 s7 wr) (fun _ s7 _ => (intOf s7 + 1).toNat)
  case atStart => exact ⟨0, Nat.zero_le _, by go_num, by simpa using HOwn.out, Only.refl _ _⟩
  case round =>
    obtain ⟨j, hj, rfl, ho, hw⟩ := hrel
    have HO := Lib.hid ho
    have HW := Lib.hid hw
    have hsz := hw.size
    clear ho hw
    by_cases hlt : j < m
    · obtain ⟨K, hK⟩ : ∃ K : Nat, m - 1 - j = K := ⟨_, rfl⟩
      have hKi : (m : Int) - 1 - (j : Int) = (K : Int) := by omega
      have HT := Lib.hid (be_take m n j hlt)
      rw [hK] at HT
      have hK7 : K ≤ 7 := by omega
      rw [hKi]
      have HK := Lib.hid hKi
      clear hK hKi
      have HC : Hid ((wr.alloc (.cells #[.int .u8 ((n : Int) / 2 ^ (8 * K) % 256)] 5)).cell? ⟨wr.heap.size, 0, none⟩ = some (byt (n / 2 ^ (8 * K) % 256))) := Lib.hid (by
        have e : (n : Int) / 2 ^ (8 * K) % 256 = ((n / 2 ^ (8 * K) % 256 : Nat) : Int) := by rw [pow_cast, Int.natCast_emod, Int.natCast_ediv]; rfl
        rw [e]
        exact (Box.new wr 5 #[.int .u8 ((n / 2 ^ (8 * K) % 256 : Nat) : Int)]).cell 0)
      have hl1 : (xs ++ (be m n).take j).length ≤ 100000 := by rw [List.length_append, List.length_take, be_len]; omega
      have HL1 := Lib.hid hl1
      have HSz := Lib.hid hsz
      clear hl1 hsz
      go_wp2_with (at_builtin; refine app_byte rfl (.tmp 14) (.tmp 20) rfl base u0 (xs ++ (be m n).take j) rfl ?own1 wr.heap.size (n / 2 ^ (8 * K) % 256) rfl HC.out HL1.out ?base1 ?rest1)
      case own1 => exact World.ownsRow.alloc HO.out _
      case base1 => have := HSz.out; simp; omega
      case rest1 =>
        intro v1 w1 r1 g1 m1
        have HO1 := Lib.hid r1
        have HW1 : Hid (Only (From base) w w1) := Lib.hid ((HW.out.alloc _).grown g1 (fun k hk => .inl (HO.out.lt hk).1))
        clear r1 g1 m1
        go_wp2
        go_roundw
        case rel => exact ⟨j + 1, hlt, by rw [← HK.out]; go_num, by rw [HT.out, ← List.append_assoc]; simpa using HO1.out, HW1.out⟩
        case measure => simp [intOf]
    · obtain rfl : j = m := by omega
      have hneg : (j : Int) - 1 - (j : Int) = -1 := by omega
      rw [hneg]
      have HE : Hid ((be j n).take j = be j n) := Lib.hid (List.take_of_length_le (by rw [be_len]; exact Nat.le_refl _))
      clear hneg
      go_wp2
      go_ret
      exact ⟨_, rfl, by rw [← HE.out]; exact HO.out, HW.out⟩
def wrE (i : Nf) : Int := ckI i
theorem Owns.down {α : Type} {w : World} {a b : Nat} {e : TypeId} {f : α → Value} {v : Value} {xs : List α} (h : Owns w b e f v xs) (hab : a ≤ b) : Owns w a e f v xs := by
  refine ⟨h.1, ?_⟩
  rcases h.2 with hn | ⟨g, cap, cur, e1, hb, r⟩
  · exact .inl hn
  · exact .inr ⟨g, cap, cur, e1, Nat.le_trans hab hb, r⟩
/-- a slice of bytes, or none, and the error -/
def WrR (w : World) (i : Nf) (e : Ending) (w' : World) : Prop := (∃ v, e = .returned (.tuple #[v, iv (ckI i)]) ∧ Owns w' w.heap.size 5 byt v (if mayI i then wrB i else [])) ∧ Only Nix w w'
theorem u64_wrap (n : Nat) (h : n < 18446744073709551616) : IntKind.u64.wrap (n : Int) = (n : Int) := by
  rw [IntKind.wrap_u64]; omega
theorem u64_or (a b k : Nat) (ha : a % 2 ^ k = 0) (hb : b < 2 ^ k) (hs : a + b < 18446744073709551616) : bits .or .u64 (a : Int) (b : Int) = ((a + b : Nat) : Int) := by
  have h := (bits_nat .u64 64 (by decide) (fun n h0 h1 => by rw [IntKind.wrap_u64]; omega) a b (by omega) (by omega)).2
  rw [h, nat_join k a b ha hb]
theorem makes34 (u : World) (base : Nat) (hb : base ≤ u.heap.size) :
    (Go.Instr.makeSlice 27 (.int .i64 0) (.int .i64 34)).run Try.prog u = .ok (.slice (some ⟨u.heap.size, 0, none⟩) 0 34) (u.alloc (.cells (madeCells #[.int .u8 0] 34) 5)) ∧
    Owns (u.alloc (.cells (madeCells #[.int .u8 0] 34) 5)) base 5 byt (.slice (some ⟨u.heap.size, 0, none⟩) 0 34) [] := by
  obtain ⟨i0, hi, hz0, hz1, hz2⟩ := info_parts Try.info_byte
  obtain ⟨w', h1, h2, _⟩ := run_make_own u base 27 5 i0 (.int .u8 0) 1 Try.underlying27 hi hz0 hz1 .i64 .i64 34 (by rw [hz2]; omega) (by unfold maxLen; omega) hb
  have h3 := run_make u 27 5 i0 (.int .u8 0) Try.underlying27 hi hz0 .i64 .i64 0 34 (by omega) (by omega) (by rw [hz2]; omega) (by omega)
  rw [hz1] at h3
  rw [show ((34 : Nat) : Int) = 34 from rfl] at h1
  rw [h1] at h3
  injection h3 with _ e
  subst e
  exact ⟨h1, h2⟩
set_option maxRecDepth 100000 in
set_option maxHeartbeats 8000000 in
theorem write_any {w : World} (i : Nf) (hi : SumOk i.s) : Calls Try.prog 9 #[.agg (nfc i)] w fun e w' => WrR w i e w' := by
  have a1 := (Only.refl Nix w).alloc (.cells (nfc i) 26)
  have b1 := Box.new w 26 (nfc i)
  obtain ⟨W1, hW1⟩ : ∃ W1, w.alloc (.cells (nfc i) 26) = W1 := ⟨_, rfl⟩
  rw [hW1] at a1 b1
  have HB := Lib.hid b1
  have HO := Lib.hid a1
  have HI := Lib.hid hi
  have HCk := Lib.hid (check_any (w := W1) i)
  have hlt := b1.lt
  by_cases hm : mayI i
  · have e0 : ckI i = 0 := if_pos hm
    have ew : (if mayI i then wrB i else []) = wrB i := if_pos hm
    have hsh := sh_lt hm
    rw [e0] at HCk
    have HR : Hid (∀ v w', Owns w' w.heap.size 5 byt v (wrB i) → Only Nix w w' → WrR w i (.returned (.tuple #[v, iv 0])) w') := Lib.hid (fun v w' h1 h2 => ⟨⟨v, by rw [e0], by rw [ew]; exact h1⟩, h2⟩)
    have HM := Lib.hid hm
    obtain ⟨m1, m2, m3, m4, m5, m6, m7, m8, _⟩ := hm
    unfold wi at m1 m2 m3 m4 m5 m6 m7 m8
    obtain ⟨R, hR⟩ := Int.eq_ofNat_of_zero_le (show 0 ≤ i.r by omega)
    obtain ⟨C, hC⟩ := Int.eq_ofNat_of_zero_le (show 0 ≤ i.c - 1 by omega)
    obtain ⟨D, hD⟩ := Int.eq_ofNat_of_zero_le (show 0 ≤ i.d - 1 by omega)
    obtain ⟨T, hT⟩ := Int.eq_ofNat_of_zero_le (show 0 ≤ i.t by omega)
    obtain ⟨Mb, hMb⟩ := Int.eq_ofNat_of_zero_le (show 0 ≤ i.mb by omega)
    obtain ⟨Xb, hXb⟩ := Int.eq_ofNat_of_zero_le (show 0 ≤ i.xb by omega)
    obtain ⟨Mf, hMf⟩ := Int.eq_ofNat_of_zero_le (show 0 ≤ i.mf by omega)
    obtain ⟨Xf, hXf⟩ := Int.eq_ofNat_of_zero_le (show 0 ≤ i.xf by omega)
    have hC' : i.c = (C : Int) + 1 := by omega
    have hD' : i.d = (D : Int) + 1 := by omega
    have q0 := (b1.cell 0).trans (nfc_0 i)
    have q1 := (b1.cell 1).trans (nfc_1 i)
    have q2 := (b1.cell 2).trans (nfc_2 i)
    have q7 := (b1.cell 7).trans (nfc_7 i)
    rw [hR] at q0 m1
    rw [hC'] at q1 m2
    rw [hD'] at q2 m3
    rw [hT] at q7 m8
    rw [hMb] at m4 m5
    rw [hXb] at m5
    rw [hMf] at m6
    rw [hXf] at m7
    have HW : Hid (wrB i = be 2 Mb ++ (be 2 Xb ++ (be 3 Mf ++ (be 3 Xf ++ (be 8 (((R * 8 + C) * 32 + D) * 68719476736 + T) ++ i.s))))) := Lib.hid (by
      unfold wrB shN
      rw [hMb, hXb, hMf, hXf, hR, hC', hD', hT]
      have e1 : ((C : Int) + 1).toNat - 1 = C := by omega
      have e2 : ((D : Int) + 1).toNat - 1 = D := by omega
      rw [e1, e2]
      simp only [Int.toNat_natCast])
    have o1 : bits .or .u64 ((R : Int) * 8) (C : Int) = ((R * 8 + C : Nat) : Int) := by
      have := u64_or (R * 8) C 3 (by omega) (by omega) (by omega)
      rwa [Int.natCast_mul] at this
    have o2 : bits .or .u64 (((R * 8 + C : Nat) : Int) * 32) (D : Int) = (((R * 8 + C) * 32 + D : Nat) : Int) := by
      have := u64_or ((R * 8 + C) * 32) D 5 (by omega) (by omega) (by omega)
      rwa [Int.natCast_mul] at this
    have o3 : bits .or .u64 ((((R * 8 + C) * 32 + D : Nat) : Int) * 68719476736) (T : Int) = ((((R * 8 + C) * 32 + D) * 68719476736 + T : Nat) : Int) := by
      have := u64_or (((R * 8 + C) * 32 + D) * 68719476736) T 36 (by rw [show (2 : Nat) ^ 36 = 68719476736 by decide]; omega) (by rw [show (2 : Nat) ^ 36 = 68719476736 by decide]; omega) (by omega)
      rwa [Int.natCast_mul] at this
    obtain ⟨S1, hS1⟩ : ∃ z, R * 8 + C = z := ⟨_, rfl⟩
    rw [hS1] at o1 o2 o3 HW
    obtain ⟨S2, hS2⟩ : ∃ z, S1 * 32 + D = z := ⟨_, rfl⟩
    rw [hS2] at o2 o3 HW
    obtain ⟨S3, hS3⟩ : ∃ z, S2 * 68719476736 + T = z := ⟨_, rfl⟩
    rw [hS3] at o3 HW
    have z1 : S1 ≤ 8388607 := by omega
    have z2 : S2 ≤ 268435455 := by omega
    have z3 : S3 < 18446744073709551616 := by omega
    have HMb := Lib.hid hMb
    have HXb := Lib.hid hXb
    have HMf := Lib.hid hMf
    have HXf := Lib.hid hXf
    obtain ⟨Cl, hCl⟩ : ∃ Cl, nfc i = Cl := ⟨_, rfl⟩
    have HCl := Lib.hid hCl
    rw [hCl] at hW1 HCk
    rw [hCl]
    clear a1 b1 hi e0 ew hsh hR hC hD hT hMb hXb hMf hXf hC' hD' hS1 hS2 hS3 hCl
    go_enter Try.func9, Try.ntmps9
    go_wp2_with (first
      | (refine wpList_load_info rfl (.tmp 1) rfl w.heap.size i rfl HB.out HI.out ?_; rw [HCl.out])
      | fail)
    refine (HCk.out).mono ?_
    rintro e w2 ⟨rfl, o2'⟩
    have HO2 := Lib.hid o2'
    have p0 := cell_keep o2' q0
    have p1 := cell_keep o2' q1
    have p2 := cell_keep o2' q2
    have p7 := cell_keep o2' q7
    clear o2' q0 q1 q2 q7
    have hB2 := HB.out.only HO2.out (fun e => e)
    have hsz2 : W1.heap.size ≤ w2.heap.size := HO2.out.size
    have hmk := (makes34 w2 W1.heap.size hsz2).1
    have hM3 := (makes34 w2 W1.heap.size hsz2).2
    have hO3 := HO2.out.alloc (.cells (madeCells #[.int .u8 0] 34) 5)
    have hB3 := hB2.alloc (.cells (madeCells #[.int .u8 0] 34) 5)
    obtain ⟨W3, hW3⟩ : ∃ W3, w2.alloc (.cells (madeCells #[.int .u8 0] 34) 5) = W3 := ⟨_, rfl⟩
    rw [hW3] at hmk hM3 hO3 hB3
    have hnf : ¬ From W1.heap.size w.heap.size := by show ¬ (W1.heap.size ≤ w.heap.size); omega
    have HNF := Lib.hid hnf
    have x3 := (hB3.cell 3).trans (nfc_3 i)
    rw [HMb.out] at x3
    have HP0 : Hid (Calls Try.prog 23 #[.slice (some ⟨w2.heap.size, 0, none⟩) 0 34, .int .i64 2, .int .u64 (Mb : Int)] W3 fun e w' => PutR W3 W1.heap.size [] 2 Mb e w') := Lib.hid (put_any 2 Mb hM3 hO3.size (by decide) (by omega) (by simp))
    have HOc := Lib.hid hO3
    have HBc := Lib.hid hB3
    clear hB2 hM3 hO3 hB3 hnf hsz2
    go_wp2_with fail
    refine (HP0.out).mono ?_
    rintro e y0 ⟨v0, rfl, r0, k0⟩
    have HO0c := Lib.hid (from_nix HOc.out k0)
    have hB0 := HBc.out.only k0 HNF.out
    have HB0c := Lib.hid hB0
    have x4 := (hB0.cell 4).trans (nfc_4 i)
    rw [HXb.out] at x4
    have HP1 : Hid (Calls Try.prog 23 #[v0, .int .i64 2, .int .u64 (Xb : Int)] y0 fun e w' => PutR y0 W1.heap.size ([] ++ be 2 Mb) 2 Xb e w') := Lib.hid (put_any 2 Xb r0 HO0c.out.size (by decide) (by omega) (by simp [be_len]))
    clear r0 k0 hB0 HP0
    go_wp2_with fail
    refine (HP1.out).mono ?_
    rintro e y1 ⟨v1, rfl, r1, k1⟩
    have HO1c := Lib.hid (from_nix HO0c.out k1)
    have hB1 := HB0c.out.only k1 HNF.out
    have HB1c := Lib.hid hB1
    have x5 := (hB1.cell 5).trans (nfc_5 i)
    rw [HMf.out] at x5
    have HP2 : Hid (Calls Try.prog 23 #[v1, .int .i64 3, .int .u64 (Mf : Int)] y1 fun e w' => PutR y1 W1.heap.size ([] ++ be 2 Mb ++ be 2 Xb) 3 Mf e w') := Lib.hid (put_any 3 Mf r1 HO1c.out.size (by decide) (by omega) (by simp [be_len]))
    clear r1 k1 hB1 HP1
    go_wp2_with fail
    refine (HP2.out).mono ?_
    rintro e y2 ⟨v2, rfl, r2, k2⟩
    have HO2c := Lib.hid (from_nix HO1c.out k2)
    have hB2 := HB1c.out.only k2 HNF.out
    have HB2c := Lib.hid hB2
    have x6 := (hB2.cell 6).trans (nfc_6 i)
    rw [HXf.out] at x6
    have HP3 : Hid (Calls Try.prog 23 #[v2, .int .i64 3, .int .u64 (Xf : Int)] y2 fun e w' => PutR y2 W1.heap.size ([] ++ be 2 Mb ++ be 2 Xb ++ be 3 Mf) 3 Xf e w') := Lib.hid (put_any 3 Xf r2 HO2c.out.size (by decide) (by omega) (by simp [be_len]))
    clear r2 k2 hB2 HP2
    go_wp2_with fail
    refine (HP3.out).mono ?_
    rintro e y3 ⟨v3, rfl, r3, k3⟩
    have HO3c := Lib.hid (from_nix HO2c.out k3)
    have hB3 := HB2c.out.only k3 HNF.out
    have HB3c := Lib.hid hB3
    have HP4 : Hid (Calls Try.prog 23 #[v3, .int .i64 8, .int .u64 (S3 : Int)] y3 fun e w' => PutR y3 W1.heap.size ([] ++ be 2 Mb ++ be 2 Xb ++ be 3 Mf ++ be 3 Xf) 8 S3 e w') := Lib.hid (put_any 8 S3 r3 HO3c.out.size (by decide) (by omega) (by simp [be_len]))
    clear r3 k3 hB3 HP3
    go_wp2_with fail
    refine (HP4.out).mono ?_
    rintro e y4 ⟨v4, rfl, r4, k4⟩
    have hO4 := from_nix HO3c.out k4
    have hB4 := HB3c.out.only k4 HNF.out
    have HN4 : Hid (∀ j, (h : j < i.s.length) → y4.cell? ((⟨w.heap.size, 8, none⟩ : Addr).add j) = some (byt i.s[j])) := Lib.hid (fun j h => by
      rw [Addr.add_lit, hB4.cell, nfc_8, List.getElem?_map, List.getElem?_eq_getElem h]
      rfl)
    have HR4 := Lib.hid r4
    have HO4 := Lib.hid hO4
    clear r4 k4 hB4 hO4 HP4
    go_wp2_with (at_builtin; refine wpList_app Try.underlying27 Try.info_byte rfl (by decide) (fun _ => rfl) rfl (.tmp 62) (.tmp 64) rfl W1.heap.size v4 ([] ++ be 2 Mb ++ be 2 Xb ++ be 3 Mf ++ be 3 Xf ++ be 8 S3) rfl HR4.out ⟨w.heap.size, 8, none⟩ 16 16 i.s rfl HI.out.1 HN4.out ?n5 HO4.out.size ?rest5)
    case n5 => simp [be_len]
    case rest5 =>
      intro v5 y5 r5 g5 m5
      have HO5 : Hid (Only Nix W1 y5) := Lib.hid (HO4.out.grew g5 (fun g hg => (HR4.out.lt hg).1))
      have HR5 : Hid (Owns y5 w.heap.size 5 byt v5 (wrB i)) := Lib.hid (by
        rw [HW.out]
        have := Owns.down r5 (Nat.le_of_lt hlt)
        simpa using this)
      clear r5 g5 m5
      go_wp2
      go_ret2
      exact HR.out _ _ HR5.out (HO.out.trans HO5.out)
  · have e0 : ckI i = 10 := if_neg hm
    have ew : (if mayI i then wrB i else []) = [] := if_neg hm
    rw [e0] at HCk
    have HR : Hid (∀ w', Only Nix w w' → WrR w i (.returned (.tuple #[.slice none 0 0, iv 10])) w') := Lib.hid (fun w' h2 => ⟨⟨_, by rw [e0], by rw [ew]; exact Owns.nil _ _ _ _⟩, h2⟩)
    obtain ⟨Cl, hCl⟩ : ∃ Cl, nfc i = Cl := ⟨_, rfl⟩
    have HCl := Lib.hid hCl
    rw [hCl] at hW1 HCk
    rw [hCl]
    clear a1 b1 hi e0 ew hCl hm
    go_enter Try.func9, Try.ntmps9
    go_wp2_with (first
      | (refine wpList_load_info rfl (.tmp 1) rfl w.heap.size i rfl HB.out HI.out ?_; rw [HCl.out])
      | fail)
    refine (HCk.out).mono ?_
    rintro e w2 ⟨rfl, o2'⟩
    have HO2 := Lib.hid o2'
    clear o2'
    go_wp2
    go_ret2
    exact HR.out _ (HO.out.trans HO2.out)
end Go.Proofs.Ytpgcaijanmpanaa
