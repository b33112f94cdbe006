/-
  math/bits.Len of numbers of no more than 32 bits.
-/
import Derived.Test.YteklfkpeaadinaaGreatDoorPCG04
import Derived.Lib.BitFns
import Derived.Test.YteklfkpeaadinaaGreatDoorPCG05
import Derived.Laws.EntriesVeiled
import Derived.Test.YteklfkpeaadinaaGreatDoorPCG06
namespace Go.Proofs.YteklfkpeaadinaaGreatDoor
open Go.RowKit

theorem bl_upper (x : Nat) (hx : x < 18446744073709551616) : x < 2 ^ Lib.bitLen x := by
  have h : ∀ f x, x < 2 ^ f → x < 2 ^ Lib.bitLenAux f x := by
    intro f
    induction f with
    | zero => intro x h; simpa [Lib.bitLenAux] using h
    | succ f ih =>
      intro x h
      rw [Lib.bitLenAux]
      split
      · rename_i h0; subst h0; simp
      · have h2 := ih (x / 2) (by rw [Nat.pow_succ] at h; omega)
        rw [Nat.add_comm, Nat.pow_succ]
        omega
  exact h 64 x hx
theorem bl_lower (x k : Nat) (hx : x < 2 ^ k) : Lib.bitLen x ≤ k := by
  have h : ∀ f x k, x < 2 ^ k → Lib.bitLenAux f x ≤ k := by
    intro f
    induction f with
    | zero => intro x k _; simp [Lib.bitLenAux]
    | succ f ih =>
      intro x k h
      rw [Lib.bitLenAux]
      split
      · omega
      · rename_i h0
        cases k with
        | zero => simp at h; exact absurd h h0
        | succ k =>
          have h2 := ih (x / 2) k (by rw [Nat.pow_succ] at h; omega)
          omega
  exact h 64 x k hx
theorem len_last (a : Nat) (ha : a ≤ 8) (k : Nat) (hk : k ≤ 24) : wrap64 ((k : Int) + wrap64 (a : Int)) = ((k + a : Nat) : Int) := by
  unfold wrap64
  omega
theorem len_last0 (a : Nat) (ha : a ≤ 8) : wrap64 (wrap64 (a : Int)) = (a : Int) := by
  unfold wrap64
  omega
theorem len_get (x : Nat) (h : x < Lib.len8tab.size) (h2 : x < 256) : ((Lib.len8tab[x]'h).toNat : Nat) = Lib.bitLen x ∧ Lib.bitLen x ≤ 8 := by
  have h1 := Lib.len8_of (x : Int) (by omega) (by omega)
  unfold Lib.len8 at h1
  rw [Int.toNat_natCast, getElem?_pos Lib.len8tab x h] at h1
  refine ⟨?_, bl_lower x 8 (by omega)⟩
  have h3 : (((Lib.len8tab[x]'h).toNat : Nat) : Int) = (Lib.bitLen x : Int) := h1
  omega
set_option maxRecDepth 100000 in
set_option maxHeartbeats 2000000 in
theorem len64_any (w : World) (x : Nat) (hx : x < 4294967296) :
    Calls Tryz.prog 144 #[.int .u64 (x : Int)] w fun e w' => e = .returned (iv (Lib.bitLen x : Nat)) ∧ w' = w := by
  have c1 : decide ((4294967296 : Int) ≤ (x : Int)) = false := by simp; omega
  rcases Nat.lt_or_ge x 65536 with h1 | h1
  · have c2 : decide ((65536 : Int) ≤ (x : Int)) = false := by simp; omega
    rcases Nat.lt_or_ge x 256 with h2 | h2
    · have c3 : decide ((256 : Int) ≤ (x : Int)) = false := by simp; omega
      go_enter Tryz.func144, Tryz.ntmps144
      go_wp2
      go_ret
      obtain ⟨e1, e2⟩ := len_get x (by assumption) h2
      rw [e1, len_last0 _ e2]
      exact ⟨rfl, rfl⟩
    · have c3 : decide ((256 : Int) ≤ (x : Int)) = true := by simp; omega
      have hs := Lib.bitLen_shift8 x h2 (by omega)
      have hd : (x : Int) / 256 = ((x / 256 : Nat) : Int) := by omega
      have hl : x / 256 < 256 := by omega
      have Hs := Lib.hid hs
      clear hs
      generalize x / 256 = y at *
      go_enter Tryz.func144, Tryz.ntmps144
      go_wp2
      go_ret
      obtain ⟨e1, e2⟩ := len_get y (by assumption) hl
      rw [e1]
      refine ⟨?_, rfl⟩
      rw [Hs.out]
      have := len_last _ e2 8 (by omega)
      simpa using this
  · have c2 : decide ((65536 : Int) ≤ (x : Int)) = true := by simp; omega
    have hd : (x : Int) / 65536 = ((x / 65536 : Nat) : Int) := by omega
    rcases Nat.lt_or_ge (x / 65536) 256 with h2 | h2
    · have c3 : decide ((256 : Int) ≤ ((x / 65536 : Nat) : Int)) = false := by simp; omega
      have Hs := Lib.hid (Lib.bitLen_shift16 x h1 (by omega))
      generalize x / 65536 = y at *
      go_enter Tryz.func144, Tryz.ntmps144
      go_wp2
      go_ret
      obtain ⟨e1, e2⟩ := len_get y (by assumption) h2
      rw [e1]
      refine ⟨?_, rfl⟩
      rw [Hs.out]
      have := len_last _ e2 16 (by omega)
      simpa using this
    · have c3 : decide ((256 : Int) ≤ ((x / 65536 : Nat) : Int)) = true := by simp; omega
      have Hs := Lib.hid (Lib.bitLen_shift24 x (by omega) (by omega))
      have hd2 : ((x / 65536 : Nat) : Int) / 256 = ((x / 16777216 : Nat) : Int) := by omega
      have hl : x / 16777216 < 256 := by omega
      generalize x / 16777216 = z at *
      generalize x / 65536 = y at *
      go_enter Tryz.func144, Tryz.ntmps144
      go_wp2
      go_ret
      obtain ⟨e1, e2⟩ := len_get z (by assumption) hl
      rw [e1]
      refine ⟨?_, rfl⟩
      rw [Hs.out]
      have := len_last _ e2 24 (by omega)
      simpa using this
theorem len_any64 (w : World) (x : Nat) (hx : x < 4294967296) :
    Calls Tryz.prog 141 #[.int .u64 (x : Int)] w fun e w' => e = .returned (iv (Lib.bitLen x : Nat)) ∧ w' = w := by
  have HL := Lib.hid (len64_any w x hx)
  go_enter Tryz.func141, Tryz.ntmps141
  go_wp2_with fail
  refine (HL.out).mono ?_
  rintro e w1 ⟨rfl, rfl⟩
  go_wp2
  go_ret
  exact ⟨rfl, rfl⟩
end Go.Proofs.YteklfkpeaadinaaGreatDoor
namespace Go.Proofs.YteklfkpeaadinaaGreatDoor
open Go.RowKit

/-- the best one so far, and one more -/
def stepC (m : Nat) (ns : List Nat) (st : Option (Int × Int)) (c : Int × Int) : Option (Int × Int) :=
  if mayP c.1 c.2 ns = true ∧ (∀ d, st = some d → szP m c.1 c.2 ns < szP m d.1 d.2 ns) then some c else st
/-- as it lies -/
def chV (m : Nat) (ns : List Nat) : Option (Int × Int) → Array Value
  | none => #[iv 0, iv 0, iv 0]
  | some c => #[iv c.1, iv c.2, iv (szP m c.1 c.2 ns : Nat)]
def FK (F K k : Nat) : Prop := k = F ∨ k = K
/-- what consider finds -/
structure Con (w : World) (B T F K m : Nat) (v : Value) (ns : List Nat) (st : Option (Int × Int)) : Prop where
  told : Told w B m v ns
  bt : Box w T 148 #[tellV B]
  bf : Box w F 4 #[.bool st.isSome]
  bk : Box w K 180 (chV m ns st)
theorem choice_put {u : World} {N : Nat} {x0 x1 x2 : Value} (b : Box u N 180 #[x0, x1, x2]) (y0 y1 y2 : Value) :
    Box (((u.setCell ⟨N, 0, none⟩ y0).setCell ⟨N, 1, none⟩ y1).setCell ⟨N, 2, none⟩ y2) N 180 #[y0, y1, y2] :=
  ((b.put 0 y0).put 1 y1).put 2 y2
theorem chV_form (m : Nat) (ns : List Nat) (st : Option (Int × Int)) : ∃ a b c : Int, chV m ns st = #[iv a, iv b, iv c] := by
  cases st with
  | none => exact ⟨0, 0, 0, rfl⟩
  | some d => exact ⟨_, _, _, rfl⟩
/-- behind the stores -/
theorem Con.found {w : World} {B T F K m : Nat} {A : Option Addr} {c n : Nat} {ns : List Nat} {st : Option (Int × Int)} (h : Con w B T F K m (.slice A n c) ns st) (d : Int × Int)
    (hd1 : F ≠ K) (hd2 : T ≠ F) (hd3 : T ≠ K) (hB : ∀ j, j < 3 → B + j ≠ F ∧ B + j ≠ K) (hsrc : ∀ ad, A = some ad → ad.block ≠ F ∧ ad.block ≠ K) :
    Con ((((w.setCell ⟨K, 0, none⟩ (iv d.1)).setCell ⟨K, 1, none⟩ (iv d.2)).setCell ⟨K, 2, none⟩ (iv (szP m d.1 d.2 ns : Nat))).setCell ⟨F, 0, none⟩ (.bool true)) B T F K m (.slice A n c) ns (some d) ∧
    Only (FK F K) w ((((w.setCell ⟨K, 0, none⟩ (iv d.1)).setCell ⟨K, 1, none⟩ (iv d.2)).setCell ⟨K, 2, none⟩ (iv (szP m d.1 d.2 ns : Nat))).setCell ⟨F, 0, none⟩ (.bool true)) := by
  have ho : Only (FK F K) w ((((w.setCell ⟨K, 0, none⟩ (iv d.1)).setCell ⟨K, 1, none⟩ (iv d.2)).setCell ⟨K, 2, none⟩ (iv (szP m d.1 d.2 ns : Nat))).setCell ⟨F, 0, none⟩ (.bool true)) :=
    ((((Only.refl _ w).setCell (p := ⟨K, 0, none⟩) (.inl (.inr rfl)) _).setCell (p := ⟨K, 1, none⟩) (.inl (.inr rfl)) _).setCell (p := ⟨K, 2, none⟩) (.inl (.inr rfl)) _).setCell (p := ⟨F, 0, none⟩) (.inl (.inl rfl)) _
  have nB : ∀ j, j < 3 → ¬ FK F K (B + j) := fun j hj e => by
    rcases e with e | e
    · exact (hB j hj).1 e
    · exact (hB j hj).2 e
  obtain ⟨x, y, z, hxyz⟩ := chV_form m ns st
  have bk := h.bk
  rw [hxyz] at bk
  refine ⟨⟨⟨h.told.b0.only ho (nB 0 (by omega)), h.told.b1.only ho (nB 1 (by omega)), h.told.b2.only ho (nB 2 (by omega)), h.told.src.only ho (fun i _ hF ad k c' e _ => ?_)⟩, h.bt.only ho (fun e => ?_), ?_, ?_⟩, ho⟩
  · injection e with e1 _ _
    have h1 := hsrc ad e1
    rcases hF with rfl | rfl
    · exact h1.1
    · exact h1.2
  · rcases e with e | e
    · exact hd2 e
    · exact hd3 e
  · have b1 : Box (((w.setCell ⟨K, 0, none⟩ (iv d.1)).setCell ⟨K, 1, none⟩ (iv d.2)).setCell ⟨K, 2, none⟩ (iv (szP m d.1 d.2 ns : Nat))) F 4 #[.bool st.isSome] :=
      ((h.bf.off (p := ⟨K, 0, none⟩) hd1 _).off (p := ⟨K, 1, none⟩) hd1 _).off (p := ⟨K, 2, none⟩) hd1 _
    exact b1.put 0 (.bool true)
  · exact (choice_put bk (iv d.1) (iv d.2) (iv (szP m d.1 d.2 ns : Nat))).off (p := ⟨F, 0, none⟩) (fun e => hd1 e.symm) _
set_option maxHeartbeats 2000000 in
theorem consider_any {w : World} {B T F K m : Nat} {A : Option Addr} {c n : Nat} {ns : List Nat} {st : Option (Int × Int)} (h : Con w B T F K m (.slice A n c) ns st) (hm : m ≤ 1) (p wd : Int) (hp : isP m p wd) (h1 : 1 ≤ ns.length) (h6 : ns.length ≤ 65535)
    (hlt : ∀ n ∈ ns, n < 4294967296) (hd1 : F ≠ K) (hd2 : T ≠ F) (hd3 : T ≠ K) (hB : ∀ j, j < 3 → B + j ≠ F ∧ B + j ≠ K) (hsrc : ∀ ad, A = some ad → ad.block ≠ F ∧ ad.block ≠ K) :
    Calls Tryz.prog 140 #[iv p, iv wd, .pointer (some ⟨T, 0, none⟩), .pointer (some ⟨F, 0, none⟩), .pointer (some ⟨K, 0, none⟩)] w fun e w' =>
      (∃ v, e = .returned v) ∧ Con w' B T F K m (.slice A n c) ns (stepC m ns st (p, wd)) ∧ Only (FK F K) w w' := by
  have HT := Lib.hid (tell_any h.told hm p wd hp h1 h6 hlt)
  have dt := h.bt.cell 0
  simp only [List.getElem?_toArray, List.getElem?_cons_zero] at dt
  go_enter Tryz.func140, Tryz.ntmps140
  go_wp2_with fail
  refine (HT.out).mono ?_
  rintro e w1 ⟨rfl, k1, rfl⟩
  have o1 := (Only.refl Nix w).drewN k1
  have bf := h.bf.only o1 (fun e => e)
  have bk := h.bk.only o1 (fun e => e)
  have H1 : Hid (Con (w.drewN k1) B T F K m (.slice A n c) ns st) := Lib.hid ⟨h.told.nix o1, h.bt.only o1 (fun e => e), bf, bk⟩
  have HO1 := Lib.hid o1
  clear HT dt h o1
  have cf := bf.cell 0
  simp only [List.getElem?_toArray, List.getElem?_cons_zero] at cf
  generalize w.drewN k1 = w1 at *
  by_cases hmy : mayP p wd ns = true
  · rw [hmy]
    have ff := bf.frozen 0
    have fk0 := bk.frozen 0
    have fk1 := bk.frozen 1
    have fk2 := bk.frozen 2
    obtain ⟨x, y, z, hxyz⟩ := chV_form m ns st
    rw [hxyz] at bk
    have ck0 := bk.cell 0
    have ck1 := bk.cell 1
    have ck2 := bk.cell 2
    simp only [List.getElem?_toArray, List.getElem?_cons_zero, List.getElem?_cons_succ] at ck0 ck1 ck2
    have hfin := Lib.hid (H1.out.found (p, wd) hd1 hd2 hd3 hB hsrc)
    cases st with
    | none =>
      simp only [Option.isSome_none] at cf
      have hst : stepC m ns none (p, wd) = some (p, wd) := by unfold stepC; rw [if_pos ⟨hmy, fun d e => by cases e⟩]
      have Hst := Lib.hid hst
      clear hst hmy bk bf
      go_wp2
      go_end0
      rw [Hst.out]
      exact ⟨⟨_, rfl⟩, hfin.out.1, HO1.out.nix.trans hfin.out.2⟩
    | some d =>
      simp only [Option.isSome_some] at cf
      have hz : z = (szP m d.1 d.2 ns : Nat) := by
        unfold chV at hxyz
        have h9 := hxyz.symm
        simp at h9
        exact h9.2.2
      by_cases hl : szP m p wd ns < szP m d.1 d.2 ns
      · have hst : stepC m ns (some d) (p, wd) = some (p, wd) := by unfold stepC; rw [if_pos ⟨hmy, fun d' e => by cases e; exact hl⟩]
        have Hst := Lib.hid hst
        have hlz : decide ((szP m p wd ns : Int) < z) = true := by rw [hz]; simpa using hl
        clear hst hmy bk bf hz hl hxyz
        go_wp2
        go_end0
        rw [Hst.out]
        exact ⟨⟨_, rfl⟩, hfin.out.1, HO1.out.nix.trans hfin.out.2⟩
      · have hst : stepC m ns (some d) (p, wd) = some d := by unfold stepC; rw [if_neg (fun e => hl (e.2 d rfl))]
        have Hst := Lib.hid hst
        have hlz : decide ((szP m p wd ns : Int) < z) = false := by rw [hz]; simpa using hl
        clear hst hmy bk bf hz hl hxyz
        go_wp2
        go_end0
        rw [Hst.out]
        exact ⟨⟨_, rfl⟩, H1.out, HO1.out.nix⟩
  · have hmf : mayP p wd ns = false := by simpa using hmy
    have hst : stepC m ns st (p, wd) = st := by unfold stepC; rw [if_neg (fun e => hmy e.1)]
    have Hst := Lib.hid hst
    rw [hmf]
    clear hst hmf hmy bk bf
    go_wp2
    go_end0
    rw [Hst.out]
    exact ⟨⟨_, rfl⟩, H1.out, HO1.out.nix⟩
/-- what is considered -/
def cand (m W : Nat) : List (Int × Int) := (List.range (min W (14 + 16 * m) + 1)).map (fun (p : Nat) => ((p : Int), (0 : Int))) ++ (if W ≤ 31 then [(-1, (W : Int))] else [])
/-- the best one -/
def chp (m : Nat) (ns : List Nat) : Option (Int × Int) := (cand m (Lib.bitLen (mxN ns))).foldl (stepC m ns) none
/-- the results, stored once more -/
abbrev chW (w w5 : World) (y0 y1 y2 : Int) (b : Bool) : World :=
  ((((w5.setCell ⟨w.heap.size, 0, none⟩ (.int .i64 y0)).setCell ⟨w.heap.size, 1, none⟩ (.int .i64 y1)).setCell ⟨w.heap.size, 2, none⟩ (.int .i64 y2)).setCell ⟨w.heap.size + 1, 0, none⟩ (.bool b)).drew
theorem ch_ret {w w5 : World} {y0 y1 y2 : Int} {b : Bool} (ho : Only Nix w w5) (bk : Box w5 w.heap.size 180 #[iv y0, iv y1, iv y2]) (bf : Box w5 (w.heap.size + 1) 4 #[.bool b]) :
    Box (chW w w5 y0 y1 y2 b) w.heap.size 180 #[iv y0, iv y1, iv y2] ∧ Box (chW w w5 y0 y1 y2 b) (w.heap.size + 1) 4 #[.bool b] ∧ Only Nix w (chW w w5 y0 y1 y2 b) := by
  refine ⟨?_, ?_, ?_⟩
  · exact ((choice_put bk (iv y0) (iv y1) (iv y2)).off (p := ⟨w.heap.size + 1, 0, none⟩) (by show w.heap.size ≠ w.heap.size + 1; omega) _).only (Only.refl Nix _).drew (fun e => e)
  · have h : Box (((w5.setCell ⟨w.heap.size, 0, none⟩ (.int .i64 y0)).setCell ⟨w.heap.size, 1, none⟩ (.int .i64 y1)).setCell ⟨w.heap.size, 2, none⟩ (.int .i64 y2)) (w.heap.size + 1) 4 #[.bool b] :=
      ((bf.off (p := ⟨w.heap.size, 0, none⟩) (by show w.heap.size + 1 ≠ w.heap.size; omega) _).off (p := ⟨w.heap.size, 1, none⟩) (by show w.heap.size + 1 ≠ w.heap.size; omega) _).off (p := ⟨w.heap.size, 2, none⟩) (by show w.heap.size + 1 ≠ w.heap.size; omega) _
    exact (h.put 0 (.bool b)).only (Only.refl Nix _).drew (fun e => e)
  · exact ((((ho.setCell (p := ⟨w.heap.size, 0, none⟩) (.inr (Nat.le_refl _)) _).setCell (p := ⟨w.heap.size, 1, none⟩) (.inr (Nat.le_refl _)) _).setCell (p := ⟨w.heap.size, 2, none⟩) (.inr (Nat.le_refl _)) _).setCell (p := ⟨w.heap.size + 1, 0, none⟩) (.inr (Nat.le_succ _)) _).drew
/-- the parameters below j, considered -/
def fdl (m : Nat) (ns : List Nat) (j : Nat) : Option (Int × Int) := ((List.range j).map fun (p : Nat) => ((p : Int), (0 : Int))).foldl (stepC m ns) none
theorem fdl_succ (m : Nat) (ns : List Nat) (j : Nat) : fdl m ns (j + 1) = stepC m ns (fdl m ns j) ((j : Int), 0) := by
  unfold fdl
  rw [List.range_succ, List.map_append, List.foldl_append]
  rfl
def ChP (w : World) (m : Nat) (A : Option Addr) (c : Nat) (ns : List Nat) (q : Nat) (s : Value) (wr : World) : Prop :=
  ∃ j : Nat, j ≤ q + 1 ∧ s = iv j ∧ Con wr (w.heap.size + 2) (w.heap.size + 5) (w.heap.size + 1) w.heap.size m (.slice A ns.length c) ns (fdl m ns j) ∧ Only Nix w wr
set_option maxRecDepth 100000 in
set_option maxHeartbeats 2000000 in
theorem cheapest_any {w : World} (m : Nat) (hm : m ≤ 1) (A : Option Addr) (n c : Nat) (ns : List Nat) (hx : ISrc w (.slice A n c) (ivs ns)) (h1 : 1 ≤ ns.length) (h6 : ns.length ≤ 65535) (hlt : ∀ n ∈ ns, n < 4294967296) :
    Calls Tryz.prog 133 #[iv m, .slice A n c] w fun e w' => e = .returned (.tuple #[.agg (chV m ns (chp m ns)), .bool (chp m ns).isSome]) ∧ Only Nix w w' := by
  have hl := hx.len
  rw [ivs_len] at hl
  subst hl
  have hml := hlt _ (mxN_mem (ns := ns) (by omega))
  have o0 := ((Only.refl Nix w).alloc (.cells #[Value.int .i64 0, Value.int .i64 0, Value.int .i64 0] 180)).alloc (.cells #[Value.bool false] 4)
  have bK := (Box.new w 180 #[Value.int .i64 0, Value.int .i64 0, Value.int .i64 0]).alloc (.cells #[Value.bool false] 4)
  have bF := Box.new (w.alloc (.cells #[Value.int .i64 0, Value.int .i64 0, Value.int .i64 0] 180)) 4 #[Value.bool false]
  rw [World.size_alloc] at bF
  have hs0 : ((w.alloc (.cells #[Value.int .i64 0, Value.int .i64 0, Value.int .i64 0] 180)).alloc (.cells #[Value.bool false] 4)).heap.size = w.heap.size + 2 := by simp
  have HC := Lib.hid (cost_any m A c ns (hx.nix o0) h1)
  rw [hs0] at HC
  have hsrcA : ∀ ad, A = some ad → ad.block < w.heap.size := fun ad e => by
    obtain ⟨ad2, e2, hc2⟩ := hx.at_ (k := 0) (by rw [ivs_len]; omega)
    rw [e] at e2
    injection e2 with e2
    subst e2
    have := World.block_lt_of_cell? w _ hc2
    rwa [add_block] at this
  have HS := Lib.hid hsrcA
  have HO0 := Lib.hid o0
  have HK := Lib.hid bK
  have HF := Lib.hid bF
  have HX := Lib.hid hx
  clear hx o0 bK bF hs0 hsrcA
  go_enter Tryz.func133, Tryz.ntmps133
  go_wp2_with fail
  refine (HC.out).mono ?_
  rintro e w2 ⟨rfl, hT2, o2, hs2⟩
  clear HC
  have hs2' : w2.heap.size = w.heap.size + 5 := hs2
  have o3 := (Only.refl Nix w2).alloc (.cells #[Value.nilFunc] 148)
  have bT := Box.new w2 148 #[Value.nilFunc]
  rw [hs2'] at bT
  obtain ⟨W3, hW3⟩ : ∃ W3, w2.alloc (.cells #[Value.nilFunc] 148) = W3 := ⟨_, rfl⟩
  rw [hW3] at o3 bT
  have dT := bT.cell 0
  have fT := bT.frozen 0
  simp only [List.getElem?_toArray, List.getElem?_cons_zero] at dT
  have bT2 := bT.put 0 (tellV (w.heap.size + 2))
  have o4 : Only Nix w2 (W3.setCell ⟨w.heap.size + 5, 0, none⟩ (tellV (w.heap.size + 2))) := o3.setCell (p := ⟨w.heap.size + 5, 0, none⟩) (.inr (by rw [hs2']; exact Nat.le_refl _)) _
  have hC0 : Hid (Con (W3.setCell ⟨w.heap.size + 5, 0, none⟩ (tellV (w.heap.size + 2))) (w.heap.size + 2) (w.heap.size + 5) (w.heap.size + 1) w.heap.size m (.slice A ns.length c) ns none) :=
    Lib.hid ⟨hT2.nix o4, bT2, (HF.out.only (o2.trans o4) (fun e => e)), (HK.out.only (o2.trans o4) (fun e => e))⟩
  have HO3 := Lib.hid (HO0.out.trans (o2.trans o4))
  have HM := Lib.hid (max_any A c (ivs ns) (ISrc.nix (by rw [ivs_len]; exact HX.out) HO3.out) (by rw [ivs_len]; exact h1))
  rw [mxI_ivs (by omega), ivs_len] at HM
  clear hT2 o2 hs2 o3 o4 bT bT2 HF HK
  go_wp2_with fail
  generalize W3.setCell ⟨w.heap.size + 5, 0, none⟩ (tellV (w.heap.size + 2)) = W4 at *
  refine (HM.out).mono ?_
  rintro e w3 ⟨rfl, rfl⟩
  have HLn := Lib.hid (len_any64 W4 (mxN ns) hml)
  clear HM hW3 dT fT hs2'
  go_wp2_with fail
  refine (HLn.out).mono ?_
  rintro e w3 ⟨rfl, hw3⟩
  subst hw3
  have hWl : Lib.bitLen (mxN ns) ≤ 32 := bl_lower _ 32 hml
  have HCH : Hid (chp m ns = (cand m (Lib.bitLen (mxN ns))).foldl (stepC m ns) none) := Lib.hid rfl
  obtain ⟨M, hM⟩ : ∃ M : Nat, 14 + 16 * m = M := ⟨_, rfl⟩
  have hMi : 14 + 16 * (m : Int) = (M : Int) := by omega
  have HMP := Lib.hid (mostParam_any w3 (m : Int) (by omega))
  rw [hMi] at HMP
  unfold cand at HCH
  rw [hM] at HCH
  clear HLn hMi
  generalize hWe : Lib.bitLen (mxN ns) = W at *
  clear hWe
  obtain ⟨q, hq⟩ : ∃ q, min W M = q := ⟨_, rfl⟩
  rw [hq] at HCH
  have hqM : q ≤ M := by omega
  have HqM := Lib.hid hqM
  have HMm := Lib.hid hM
  have hD1 : w.heap.size + 1 ≠ w.heap.size := by omega
  have hD2 : w.heap.size + 5 ≠ w.heap.size + 1 := by omega
  have hD3 : w.heap.size + 5 ≠ w.heap.size := by omega
  have HD := Lib.hid (And.intro hD1 (And.intro hD2 hD3))
  have HCo : ∀ u st p wd, Con u (w.heap.size + 2) (w.heap.size + 5) (w.heap.size + 1) w.heap.size m (.slice A ns.length c) ns st → Only Nix w u → isP m p wd →
      Hid (Calls Tryz.prog 140 #[iv p, iv wd, .pointer (some ⟨w.heap.size + 5, 0, none⟩), .pointer (some ⟨w.heap.size + 1, 0, none⟩), .pointer (some ⟨w.heap.size, 0, none⟩)] u fun e w' =>
        (∃ v, e = .returned v) ∧ Con w' (w.heap.size + 2) (w.heap.size + 5) (w.heap.size + 1) w.heap.size m (.slice A ns.length c) ns (stepC m ns st (p, wd)) ∧ Only Nix w w') := fun u st p wd hc ho hp => Lib.hid (by
    refine (consider_any hc hm p wd hp h1 h6 hlt HD.out.1 HD.out.2.1 HD.out.2.2 (fun j hj => ⟨by omega, by omega⟩) (fun ad e => by have := HS.out ad e; exact ⟨by omega, by omega⟩)).mono ?_
    rintro e w' ⟨hv, hc', ho'⟩
    exact ⟨hv, hc', ho.then ho' (fun i e => .inr (by rcases e with e | e <;> omega))⟩)
  clear hD1 hD2 hD3 hqM hM hlt
  rcases Nat.lt_or_ge M W with hw | hw
  · obtain rfl : M = q := by omega
    have hwn : ¬ W < M := by omega
    go_wp2_with fail
    refine (HMP.out).mono ?_
    rintro e w4 ⟨rfl, rfl⟩
    clear HMP
    go_wp2
    go_loopw [23] (fun s23 wr => ChP w m A c ns M s23 wr) (fun s23 _ => M + 1 - (intOf s23).toNat)
    case atStart => exact ⟨0, by omega, rfl, hC0.out, HO3.out⟩
    case round =>
      obtain ⟨j, hj, rfl, hCj, hOj⟩ := hrel
      by_cases hlt : j < M + 1
      · have hcs := HCo wr _ (j : Int) 0 hCj hOj (.inr ⟨by omega, by have := HMm.out; have := HqM.out; omega, rfl⟩)
        have hlt2 : (j : Int) < (M : Int) + 1 := by omega
        clear hCj hOj hC0 HO3
        go_wp2_with fail
        refine (hcs.out).mono ?_
        rintro e w5 ⟨⟨v, rfl⟩, hC5, hO5⟩
        have HC5 := Lib.hid hC5
        have HO5 := Lib.hid hO5
        clear hcs hC5 hO5
        go_wp2
        go_roundw
        case rel => exact ⟨j + 1, by omega, by go_num, by rw [fdl_succ]; exact HC5.out, HO5.out⟩
        case measure => simp [intOf]; omega
      · obtain rfl : j = M + 1 := by omega
        have hlt2 : decide (((M + 1 : Nat) : Int) < (M : Int) + 1) = false := by simp
        have hlt3 : ¬ ((M : Int) + 1 < (M : Int) + 1) := by omega
        have HCH2 : Hid (chp m ns = (if W ≤ 31 then [(-1, (W : Int))] else []).foldl (stepC m ns) (fdl m ns (M + 1))) := Lib.hid (by rw [HCH.out, List.foldl_append]; rfl)
        have HCj := Lib.hid hCj
        have HOj := Lib.hid hOj
        by_cases hW31 : W ≤ 31
        · have hwd : decide ((W : Int) ≤ 31) = true := by simp; omega
          have hcs := HCo wr _ (-1) (W : Int) hCj hOj (.inl ⟨rfl, by omega, by omega⟩)
          have HCH3 : Hid (chp m ns = stepC m ns (fdl m ns (M + 1)) (-1, (W : Int))) := Lib.hid (by rw [HCH2.out, if_pos hW31]; rfl)
          clear hCj hOj hC0 HO3
          go_wp2_with fail
          refine (hcs.out).mono ?_
          rintro e w5 ⟨⟨v, rfl⟩, hC5, hO5⟩
          rw [← HCH3.out] at hC5
          obtain ⟨y0, y1, y2, hxyz⟩ := chV_form m ns (chp m ns)
          have bk := hC5.bk
          have bf := hC5.bf
          rw [hxyz] at bk
          have k0 := bk.cell 0
          have k1 := bk.cell 1
          have k2 := bk.cell 2
          have f0 := bf.cell 0
          simp only [List.getElem?_toArray, List.getElem?_cons_zero, List.getElem?_cons_succ] at k0 k1 k2 f0
          have g0 := bk.frozen 0
          have g1 := bk.frozen 1
          have g2 := bk.frozen 2
          have g3 := bf.frozen 0
          have HO5 := Lib.hid hO5
          have Hbk := Lib.hid bk
          have Hbf := Lib.hid bf
          have Hxyz := Lib.hid hxyz
          clear hcs hC5 hO5 bk bf hxyz
          go_wp2
          go_region
          obtain ⟨b1, b2, o6⟩ := ch_ret HO5.out Hbk.out Hbf.out
          unfold chW at b1 b2 o6
          generalize World.drew _ = w6 at b1 b2 o6 ⊢
          have k0' := b1.cell 0
          have k1' := b1.cell 1
          have k2' := b1.cell 2
          have f0' := b2.cell 0
          simp only [List.getElem?_toArray, List.getElem?_cons_zero, List.getElem?_cons_succ] at k0' k1' k2' f0'
          have HO6 := Lib.hid o6
          clear b1 b2 o6 k0 k1 k2 f0 g0 g1 g2 g3
          go_wp2
          refine bodyPost_ret (v := .tuple #[.agg #[iv y0, iv y1, iv y2], .bool (chp m ns).isSome]) ?_ rfl ⟨by rw [Hxyz.out], HO6.out⟩
          simp [results, Tryz.f133, go_sem, k0', k1', k2', f0']
        · have hwd : decide ((W : Int) ≤ 31) = false := by simp; omega
          have HCH3 : Hid (chp m ns = fdl m ns (M + 1)) := Lib.hid (by rw [HCH2.out, if_neg hW31]; rfl)
          have hC5 := hCj
          rw [← HCH3.out] at hC5
          obtain ⟨y0, y1, y2, hxyz⟩ := chV_form m ns (chp m ns)
          have bk := hC5.bk
          have bf := hC5.bf
          rw [hxyz] at bk
          have k0 := bk.cell 0
          have k1 := bk.cell 1
          have k2 := bk.cell 2
          have f0 := bf.cell 0
          simp only [List.getElem?_toArray, List.getElem?_cons_zero, List.getElem?_cons_succ] at k0 k1 k2 f0
          have g0 := bk.frozen 0
          have g1 := bk.frozen 1
          have g2 := bk.frozen 2
          have g3 := bf.frozen 0
          have HO5 := Lib.hid hOj
          have Hbk := Lib.hid bk
          have Hbf := Lib.hid bf
          have Hxyz := Lib.hid hxyz
          clear hC5 hCj hOj bk bf hxyz hC0 HO3
          go_wp2
          go_region
          obtain ⟨b1, b2, o6⟩ := ch_ret HO5.out Hbk.out Hbf.out
          unfold chW at b1 b2 o6
          generalize World.drew _ = w6 at b1 b2 o6 ⊢
          have k0' := b1.cell 0
          have k1' := b1.cell 1
          have k2' := b1.cell 2
          have f0' := b2.cell 0
          simp only [List.getElem?_toArray, List.getElem?_cons_zero, List.getElem?_cons_succ] at k0' k1' k2' f0'
          have HO6 := Lib.hid o6
          clear b1 b2 o6 k0 k1 k2 f0 g0 g1 g2 g3
          go_wp2
          refine bodyPost_ret (v := .tuple #[.agg #[iv y0, iv y1, iv y2], .bool (chp m ns).isSome]) ?_ rfl ⟨by rw [Hxyz.out], HO6.out⟩
          simp [results, Tryz.f133, go_sem, k0', k1', k2', f0']
  · obtain rfl : W = q := by omega
    go_wp2_with fail
    refine (HMP.out).mono ?_
    rintro e w4 ⟨rfl, rfl⟩
    clear HMP
    go_wp2
    go_loopw [23] (fun s23 wr => ChP w m A c ns W s23 wr) (fun s23 _ => W + 1 - (intOf s23).toNat)
    case atStart => exact ⟨0, by omega, rfl, hC0.out, HO3.out⟩
    case round =>
      obtain ⟨j, hj, rfl, hCj, hOj⟩ := hrel
      by_cases hlt : j < W + 1
      · have hcs := HCo wr _ (j : Int) 0 hCj hOj (.inr ⟨by omega, by have := HMm.out; have := HqM.out; omega, rfl⟩)
        have hlt2 : (j : Int) < (W : Int) + 1 := by omega
        clear hCj hOj hC0 HO3
        go_wp2_with fail
        refine (hcs.out).mono ?_
        rintro e w5 ⟨⟨v, rfl⟩, hC5, hO5⟩
        have HC5 := Lib.hid hC5
        have HO5 := Lib.hid hO5
        clear hcs hC5 hO5
        go_wp2
        go_roundw
        case rel => exact ⟨j + 1, by omega, by go_num, by rw [fdl_succ]; exact HC5.out, HO5.out⟩
        case measure => simp [intOf]; omega
      · obtain rfl : j = W + 1 := by omega
        have hlt2 : decide (((W + 1 : Nat) : Int) < (W : Int) + 1) = false := by simp
        have hlt3 : ¬ ((W : Int) + 1 < (W : Int) + 1) := by omega
        have HCH2 : Hid (chp m ns = (if W ≤ 31 then [(-1, (W : Int))] else []).foldl (stepC m ns) (fdl m ns (W + 1))) := Lib.hid (by rw [HCH.out, List.foldl_append]; rfl)
        have HCj := Lib.hid hCj
        have HOj := Lib.hid hOj
        by_cases hW31 : W ≤ 31
        · have hwd : decide ((W : Int) ≤ 31) = true := by simp; omega
          have hcs := HCo wr _ (-1) (W : Int) hCj hOj (.inl ⟨rfl, by omega, by omega⟩)
          have HCH3 : Hid (chp m ns = stepC m ns (fdl m ns (W + 1)) (-1, (W : Int))) := Lib.hid (by rw [HCH2.out, if_pos hW31]; rfl)
          clear hCj hOj hC0 HO3
          go_wp2_with fail
          refine (hcs.out).mono ?_
          rintro e w5 ⟨⟨v, rfl⟩, hC5, hO5⟩
          rw [← HCH3.out] at hC5
          obtain ⟨y0, y1, y2, hxyz⟩ := chV_form m ns (chp m ns)
          have bk := hC5.bk
          have bf := hC5.bf
          rw [hxyz] at bk
          have k0 := bk.cell 0
          have k1 := bk.cell 1
          have k2 := bk.cell 2
          have f0 := bf.cell 0
          simp only [List.getElem?_toArray, List.getElem?_cons_zero, List.getElem?_cons_succ] at k0 k1 k2 f0
          have g0 := bk.frozen 0
          have g1 := bk.frozen 1
          have g2 := bk.frozen 2
          have g3 := bf.frozen 0
          have HO5 := Lib.hid hO5
          have Hbk := Lib.hid bk
          have Hbf := Lib.hid bf
          have Hxyz := Lib.hid hxyz
          clear hcs hC5 hO5 bk bf hxyz
          go_wp2
          go_region
          obtain ⟨b1, b2, o6⟩ := ch_ret HO5.out Hbk.out Hbf.out
          unfold chW at b1 b2 o6
          generalize World.drew _ = w6 at b1 b2 o6 ⊢
          have k0' := b1.cell 0
          have k1' := b1.cell 1
          have k2' := b1.cell 2
          have f0' := b2.cell 0
          simp only [List.getElem?_toArray, List.getElem?_cons_zero, List.getElem?_cons_succ] at k0' k1' k2' f0'
          have HO6 := Lib.hid o6
          clear b1 b2 o6 k0 k1 k2 f0 g0 g1 g2 g3
          go_wp2
          refine bodyPost_ret (v := .tuple #[.agg #[iv y0, iv y1, iv y2], .bool (chp m ns).isSome]) ?_ rfl ⟨by rw [Hxyz.out], HO6.out⟩
          simp [results, Tryz.f133, go_sem, k0', k1', k2', f0']
        · have hwd : decide ((W : Int) ≤ 31) = false := by simp; omega
          have HCH3 : Hid (chp m ns = fdl m ns (W + 1)) := Lib.hid (by rw [HCH2.out, if_neg hW31]; rfl)
          have hC5 := hCj
          rw [← HCH3.out] at hC5
          obtain ⟨y0, y1, y2, hxyz⟩ := chV_form m ns (chp m ns)
          have bk := hC5.bk
          have bf := hC5.bf
          rw [hxyz] at bk
          have k0 := bk.cell 0
          have k1 := bk.cell 1
          have k2 := bk.cell 2
          have f0 := bf.cell 0
          simp only [List.getElem?_toArray, List.getElem?_cons_zero, List.getElem?_cons_succ] at k0 k1 k2 f0
          have g0 := bk.frozen 0
          have g1 := bk.frozen 1
          have g2 := bk.frozen 2
          have g3 := bf.frozen 0
          have HO5 := Lib.hid hOj
          have Hbk := Lib.hid bk
          have Hbf := Lib.hid bf
          have Hxyz := Lib.hid hxyz
          clear hC5 hCj hOj bk bf hxyz hC0 HO3
          go_wp2
          go_region
          obtain ⟨b1, b2, o6⟩ := ch_ret HO5.out Hbk.out Hbf.out
          unfold chW at b1 b2 o6
          generalize World.drew _ = w6 at b1 b2 o6 ⊢
          have k0' := b1.cell 0
          have k1' := b1.cell 1
          have k2' := b1.cell 2
          have f0' := b2.cell 0
          simp only [List.getElem?_toArray, List.getElem?_cons_zero, List.getElem?_cons_succ] at k0' k1' k2' f0'
          have HO6 := Lib.hid o6
          clear b1 b2 o6 k0 k1 k2 f0 g0 g1 g2 g3
          go_wp2
          refine bodyPost_ret (v := .tuple #[.agg #[iv y0, iv y1, iv y2], .bool (chp m ns).isSome]) ?_ rfl ⟨by rw [Hxyz.out], HO6.out⟩
          simp [results, Tryz.f133, go_sem, k0', k1', k2', f0']
end Go.Proofs.YteklfkpeaadinaaGreatDoor
namespace Go.Proofs.YteklfkpeaadinaaGreatDoor
open Go.RowKit

section
variable {m : Nat} {ns : List Nat}
theorem stepC_keep (st : Option (Int × Int)) (c : Int × Int) : stepC m ns st c = st ∨ (stepC m ns st c = some c ∧ mayP c.1 c.2 ns = true) := by
  unfold stepC
  split
  · rename_i h; exact .inr ⟨rfl, h.1⟩
  · exact .inl rfl
/-- what a fold of steps leaves -/
theorem fold_le : ∀ (l : List (Int × Int)) (st : Option (Int × Int)),
    (∀ d, l.foldl (stepC m ns) st = some d → (st = some d ∨ d ∈ l ∧ mayP d.1 d.2 ns = true)) ∧
    (∀ d, st = some d → ∃ e, l.foldl (stepC m ns) st = some e ∧ szP m e.1 e.2 ns ≤ szP m d.1 d.2 ns) ∧
    (∀ d ∈ l, mayP d.1 d.2 ns = true → ∃ e, l.foldl (stepC m ns) st = some e ∧ szP m e.1 e.2 ns ≤ szP m d.1 d.2 ns)
  | [], st => ⟨fun d h => .inl h, fun d h => ⟨d, h, Nat.le_refl _⟩, fun d h => by cases h⟩
  | c :: l, st => by
    obtain ⟨h1, h2, h3⟩ := fold_le l (stepC m ns st c)
    rw [List.foldl_cons]
    refine ⟨fun d hd => ?_, fun d hd => ?_, fun d hd hm => ?_⟩
    · rcases h1 d hd with h | ⟨h, h'⟩
      · rcases stepC_keep (m := m) (ns := ns) st c with e | ⟨e, e'⟩
        · exact .inl (by rw [← e]; exact h)
        · rw [e] at h
          cases h
          exact .inr ⟨List.mem_cons_self .., e'⟩
      · exact .inr ⟨List.mem_cons_of_mem _ h, h'⟩
    · by_cases hs : stepC m ns st c = st
      · exact h2 d (by rw [hs]; exact hd)
      · have h4 : mayP c.1 c.2 ns = true ∧ (∀ d, st = some d → szP m c.1 c.2 ns < szP m d.1 d.2 ns) := by
          unfold stepC at hs
          split at hs
          · assumption
          · exact absurd rfl hs
        obtain ⟨e, e1, e2⟩ := h2 c (by unfold stepC; rw [if_pos h4])
        have := h4.2 d hd
        exact ⟨e, e1, by omega⟩
    · rcases List.mem_cons.1 hd with rfl | hd
      · by_cases h4 : ∀ d', st = some d' → szP m d.1 d.2 ns < szP m d'.1 d'.2 ns
        · exact h2 d (by unfold stepC; rw [if_pos ⟨hm, h4⟩])
        · have h5 : ∃ d', st = some d' ∧ szP m d'.1 d'.2 ns ≤ szP m d.1 d.2 ns := by
            cases st with
            | none => exact absurd (fun d' e => by cases e) h4
            | some d' =>
              refine ⟨d', rfl, ?_⟩
              by_cases h6 : szP m d.1 d.2 ns < szP m d'.1 d'.2 ns
              · exact absurd (fun d'' e => by cases e; exact h6) h4
              · omega
          obtain ⟨d', e1, e2⟩ := h5
          obtain ⟨e, g1, g2⟩ := h2 d' (by unfold stepC; rw [if_neg (fun h => h4 h.2)]; exact e1)
          exact ⟨e, g1, by omega⟩
      · exact h3 d hd hm
end
theorem hiS_zero (p : Nat) (ns : List Nat) (h : ∀ n ∈ ns, n < 2 ^ p) : hiS p ns = 0 := by
  induction ns with
  | nil => simp [hiS]
  | cons n ns ih =>
    have h1 := ih (fun x hx => h x (List.mem_cons_of_mem _ hx))
    have h2 := Nat.div_eq_of_lt (h n (List.mem_cons_self ..))
    unfold hiS at h1 ⊢
    rw [List.map_cons, List.sum_cons, h1, h2]
/-- a part that may be written by some parameter is written by the best one, in no more bits -/
theorem chp_le {m : Nat} (_ : m ≤ 1) {ns : List Nat} (h1 : 1 ≤ ns.length) (hlt : ∀ n ∈ ns, n < 4294967296) {p wd : Int} (hp : isP m p wd) (hy : mayP p wd ns = true) :
    ∃ c, chp m ns = some c ∧ isP m c.1 c.2 ∧ mayP c.1 c.2 ns = true ∧ szP m c.1 c.2 ns ≤ szP m p wd ns := by
  have hmx := mxN_mem (ns := ns) (by omega)
  have hml := hlt _ hmx
  have hup := bl_upper (mxN ns) (by omega)
  have hW32 := bl_lower (mxN ns) 32 (by omega)
  have hlow := bl_lower (mxN ns)
  have hall : ∀ q, Lib.bitLen (mxN ns) ≤ q → ∀ n ∈ ns, n < 2 ^ q := fun q hq n hn => Nat.lt_of_le_of_lt (mxN_le n hn) (Nat.lt_of_lt_of_le hup (Nat.pow_le_pow_right (by decide) hq))
  obtain ⟨f1, _, f3⟩ := fold_le (m := m) (ns := ns) (cand m (Lib.bitLen (mxN ns))) none
  have hc : ∀ c, chp m ns = some c → isP m c.1 c.2 ∧ mayP c.1 c.2 ns = true := fun c e => by
    rcases f1 c e with h | ⟨h, h'⟩
    · cases h
    · refine ⟨?_, h'⟩
      unfold cand at h
      rcases List.mem_append.1 h with h | h
      · obtain ⟨q, hq, rfl⟩ := List.mem_map.1 h
        have := List.mem_range.1 hq
        exact .inr ⟨by simp, by show (q : Int) ≤ 14 + 16 * (m : Int); omega, rfl⟩
      · split at h
        · rw [List.mem_singleton] at h
          subst h
          exact .inl ⟨rfl, by simp, by show ((Lib.bitLen (mxN ns) : Nat) : Int) ≤ 31; omega⟩
        · cases h
  have hin : ∃ d ∈ cand m (Lib.bitLen (mxN ns)), mayP d.1 d.2 ns = true ∧ szP m d.1 d.2 ns ≤ szP m p wd ns := by
    generalize Lib.bitLen (mxN ns) = W at *
    rcases hp with ⟨rfl, w1, w2⟩ | ⟨p1, p2, rfl⟩
    · obtain ⟨wd, rfl⟩ := Int.eq_ofNat_of_zero_le w1
      have hlt2 : mxN ns < 2 ^ wd := by
        unfold mayP at hy
        simpa using hy
      have hWw := hlow wd hlt2
      refine ⟨(-1, (W : Int)), ?_, ?_, ?_⟩
      · unfold cand
        rw [if_pos (by omega)]
        exact List.mem_append_right _ (List.mem_singleton.2 rfl)
      · unfold mayP
        simpa using hup
      · unfold szP
        simp only [if_true, Int.toNat_natCast]
        unfold szR
        have := Nat.mul_le_mul_right ns.length hWw
        omega
    · obtain ⟨p, rfl⟩ := Int.eq_ofNat_of_zero_le p1
      have hpm : p ≤ 14 + 16 * m := by omega
      by_cases hpW : p ≤ W
      · refine ⟨((p : Int), 0), ?_, hy, Nat.le_refl _⟩
        unfold cand
        exact List.mem_append_left _ (List.mem_map.2 ⟨p, List.mem_range.2 (by omega), rfl⟩)
      · refine ⟨((W : Int), 0), ?_, ?_, ?_⟩
        · unfold cand
          exact List.mem_append_left _ (List.mem_map.2 ⟨W, List.mem_range.2 (by omega), rfl⟩)
        · unfold mayP
          rw [if_neg (by show ¬ ((W : Int) = -1); omega)]
          simp only [Int.toNat_natCast, decide_eq_true_eq]
          rw [Nat.div_eq_of_lt hup]
          omega
        · unfold szP
          rw [if_neg (by show ¬ ((W : Int) = -1); omega), if_neg (by omega)]
          simp only [Int.toNat_natCast]
          unfold szK
          rw [hiS_zero W ns (hall W (Nat.le_refl _)), hiS_zero p ns (hall p (by omega))]
          have := Nat.mul_le_mul_right ns.length (show 1 + W ≤ 1 + p by omega)
          omega
  obtain ⟨d, d1, d2, d3⟩ := hin
  obtain ⟨e, e1, e2⟩ := f3 d d1 d2
  obtain ⟨c1, c2⟩ := hc e e1
  exact ⟨e, e1, c1, c2, by omega⟩
end Go.Proofs.YteklfkpeaadinaaGreatDoor
