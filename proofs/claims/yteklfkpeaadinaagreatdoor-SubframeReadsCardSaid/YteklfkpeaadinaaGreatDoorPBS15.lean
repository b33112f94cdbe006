/-
  slices.Repeat of one number.
-/
import Derived.Test.YteklfkpeaadinaaGreatDoorPBS14
import Derived.Deep.RegionLaw
import Derived.Laws.CopyOwn
namespace Go.Proofs.YteklfkpeaadinaaGreatDoor.S
open Go.RowKit
open K (linV)
/-- copy into the midst of a block, as one step of a region that draws its order -/
theorem step_copy_row {P : Program} {ops : Array Oper} {o : Oper} {a : Act} {w : World} {K : Act → World → Prop} {Q : Exit → Act → World → Prop} {E : Prop} (hgd : o.guard = none) (d s : Operand) (dT sT : TypeId)
    (ho : o.op = .call { callee := .builtin .copy, args := #[d, s], argTypes := #[dT, sT] }) (elem : TypeId) (hu : P.underlying dT = some (.slice elem)) (hsz : (P.info? elem).map (·.size) = some 1)
    (ad : Addr) (dLen dCap sLen sCap : Nat) (g off : Nat) (hd : a.eval d = .slice (some ⟨g, off, none⟩) dLen dCap) (hs : a.eval s = .slice (some ad) sLen sCap)
    (cur : List Value) (t : TypeId) (hg : Box w g t cur.toArray) (cs : List Value) (hn : cs.length = Nat.min sLen dLen)
    (hsrc : ∀ j v, cs[j]? = some v → w.cell? (ad.add j) = some v) (hfit : off + cs.length ≤ cur.length) (h1 : ∀ v ∈ cs, v.oneCell' = true)
    (h : ∀ w', Hid (Box w' g t (splice cur off cs).toArray) → Only (Just g) w w' → K (a.put o.dst (goInt cs.length)) w') :
    if Region.wanted o (yielded ops a.tmps) = true then Oper.wp P o a w K Q else E := by
  have hw : Region.wanted o (yielded ops a.tmps) = true := by simp [Region.wanted, hgd]
  rw [if_pos hw]
  have hrun := run_copy_row (P := P) w dT sT o.type elem g off dLen dCap ad sLen sCap cur.toArray t cs hu hsz hg hn hsrc (by simpa using hfit) h1
  unfold Oper.wp
  simp [execOp, ho, resolve, invoke, builtin, hd, hs, hrun, Result.andThen]
  exact h _ (show _ = _ by simpa [splice] using setRow_heap w g _ _ t _ hg) ⟨rfl, rfl, rfl, by simp [World.setRow], fun k _ hk => setRow_other w g k _ hk⟩
set_option maxHeartbeats 2000000 in
theorem mul_one (w : World) (y : Nat) (hy : y ≤ 65535) :
    Calls Tryz.prog 110 #[.int .u64 1, .int .u64 (y : Int)] w fun e w' => e = .returned (.tuple #[.int .u64 0, .int .u64 (y : Int)]) ∧ w = w' := by
  have HM := Lib.hid (mul64_one w y hy)
  have hyi : (y : Int) ≤ 65535 := by omega
  clear hy
  go_enter Tryz.func110, Tryz.ntmps110
  go_wp2_with fail
  refine (HM.out).mono ?_
  rintro e w1 ⟨rfl, rfl⟩
  go_wp2
  go_ret2
  exact ⟨rfl, rfl⟩
/-- the first ones are x, the others nought -/
def rpC (b : Nat) (x : Int) (j : Nat) : List Value := List.replicate j (iv x) ++ List.replicate (b - j) (iv 0)
theorem rpC_len (b : Nat) (x : Int) (j : Nat) (h : j ≤ b) : (rpC b x j).length = b := by simp [rpC]; omega
theorem rpC_splice (b : Nat) (x : Int) (j m : Nat) (h : j + m ≤ b) : splice (rpC b x j) j (List.replicate m (iv x)) = rpC b x (j + m) := by
  unfold splice rpC
  rw [List.take_append_of_le_length (by simp), List.take_of_length_le (by simp), List.drop_append, List.length_replicate, List.drop_of_length_le (by simp), List.nil_append, List.length_replicate, show j + m - j = m by omega, List.drop_replicate, ← List.append_assoc, List.replicate_append_replicate, show b - j - m = b - (j + m) by omega]
theorem rpC_at (b : Nat) (x : Int) (j i : Nat) (h : i < j) : (rpC b x j)[i]? = some (iv x) := by
  unfold rpC
  rw [List.getElem?_append_left (by simpa using h), List.getElem?_replicate, if_pos h]
def RpP (w : World) (b : Nat) (x : Int) (g : Nat) (s : Value) (wr : World) : Prop := ∃ j : Nat, 1 ≤ j ∧ j ≤ b ∧ s = iv j ∧ Box wr g 3 (rpC b x j).toArray ∧ Only Nix w wr
set_option maxHeartbeats 4000000 in
theorem repeat_one {w : World} (A : Option Addr) (c : Nat) (x : Int) (hx : ISrc w (.slice A 1 c) [x]) (b : Nat) (hb0 : 1 ≤ b) (hb : b ≤ 65535) :
    Calls Tryz.prog 85 #[.slice A 1 c, iv b] w fun e w' => ∃ g, e = .returned (.slice (some ⟨g, 0, none⟩) b b) ∧ Box w' g 3 (List.replicate b (iv x)).toArray ∧ w.heap.size ≤ g ∧ Only Nix w w' := by
  obtain ⟨ad, hA, hc⟩ := hx.at_ (k := 0) (by simp)
  subst hA
  rw [Addr.add_zero'] at hc
  have hc0 : w.cell? ad = some (iv x) := by simpa using hc
  have HM := Lib.hid (mul_one w b hb)
  have hmk := fun (u : World) => run_make_row' (P := Tryz.prog) 22 3 (.int .i64 0) 8 Tryz.underlying22 K.Tryz.info_int rfl .i64 .i64 b (by omega) (by omega) u
  simp only [K.made_ints] at hmk
  have hbi : (b : Int) ≤ 65535 := by omega
  have hbi0 : ¬ (b : Int) < 0 := by omega
  have hbig : ¬ (9223372036854775807 : Int) < (b : Int) := by omega
  have hbigd : decide ((9223372036854775807 : Int) < (b : Int)) = false := decide_eq_false hbig
  have hbl : w.heap.size ≤ w.heap.size := Nat.le_refl _
  have HC := Lib.hid hc0
  have HB0 := Lib.hid (Box.new w 3 (List.replicate b (iv 0)).toArray)
  obtain ⟨ZS, hZS⟩ : ∃ ZS, List.replicate b (iv 0) = ZS := ⟨_, rfl⟩
  simp only [hZS] at hmk
  rw [hZS] at HB0
  have HZ := Lib.hid hZS
  have HZl : Hid (ZS.length = b) := Lib.hid (by rw [← hZS]; simp)
  clear hx hc hc0 hZS
  go_enter Tryz.func85, Tryz.ntmps85
  go_wp2_with fail
  refine (HM.out).mono ?_
  rintro e w1 ⟨rfl, rfl⟩
  clear HM
  go_wp2_with (with_reducible refine wpList_copy_splice rfl (.tmp 31) (.tmp 32) 22 22 rfl 3 Tryz.underlying22 K.Tryz.size_int (some ⟨w.heap.size, 0, none⟩) (some ad) b b 1 c rfl rfl w.heap.size 0 ZS 3 ?hg [iv x] ?hn ?hpos ?hfit ?h1 w.heap.size w ?hb ?hBg ?rest)
  case hg => exact heap_alloc_new w _
  case hn => exact (Nat.min_eq_left hb0).symm
  case hpos =>
    have key : ∀ (j : Nat) (v : Value), [iv x][j]? = some v → (w.alloc (.cells ZS.toArray 3)).cell? (ad.add j) = some v := by
      intro j v hv
      have hj : j = 0 := by
        have := (List.getElem?_eq_some_iff.1 hv).1
        simpa using this
      subst hj
      have hvx : v = iv x := by simpa using hv.symm
      subst hvx
      rw [Addr.add_zero']
      exact cell_keep ((Only.refl Nix w).alloc _) HC.out
    first | exact key | exact fun _ => key | exact fun _ => ⟨rfl, ad, rfl, key⟩ | exact fun _ => ⟨ad, rfl, key⟩ | exact ⟨rfl, ad, rfl, key⟩ | exact ⟨ad, rfl, key⟩ | trace_state
  case hfit => rw [HZl.out]; simpa using hb0
  case h1 => intro v hv; simp at hv; subst hv; rfl
  case hb => exact (Below.refl _ _).alloc (Nat.le_refl _) _
  case hBg => exact Nat.le_refl _
  case rest =>
    intro W1 hW1 hbel
    have hB1 : Box W1 w.heap.size 3 (rpC b x 1).toArray := by
      have h1 := hW1.out
      unfold Box
      rw [h1]
      have e : splice ZS 0 [iv x] = rpC b x 1 := by
        have h2 := rpC_splice b x 0 1 (by omega)
        have h3 : rpC b x 0 = ZS := by unfold rpC; rw [← HZ.out]; simp
        rw [h3] at h2
        simpa using h2
      rw [e]
    have HB1 := Lib.hid hB1
    have HO1 := Lib.hid (Only.ofBelow hbel (Nat.le_refl _))
    clear hB1 hW1 hbel hmk HB0
    go_wp2
    go_loopw [8] (fun s wr => RpP w b x w.heap.size s wr) (fun s _ => b - (intOf s).toNat)
    case atStart => exact ⟨1, Nat.le_refl _, hb0, rfl, HB1.out, HO1.out⟩
    case round =>
      obtain ⟨j, hj1, hj, rfl, hbx, hO⟩ := hrel
      have HBx := Lib.hid hbx
      have HOx := Lib.hid hO
      clear hbx hO
      by_cases hlt : j < b
      · have hlti : (j : Int) < (b : Int) := by omega
        have hne : ¬ b = j := by omega
        obtain ⟨m, hm⟩ : ∃ m, Nat.min j (b - j) = m := ⟨_, rfl⟩
        have hm0 : 0 < m := by rw [← hm]; exact Nat.lt_min.2 ⟨by omega, by omega⟩
        have hm1 : m ≤ j := by rw [← hm]; exact Nat.min_le_left _ _
        have hm2 : m ≤ b - j := by rw [← hm]; exact Nat.min_le_right _ _
        have HCn : Hid ((List.replicate m (iv x)).length = Nat.min j (b - j)) := Lib.hid (by rw [List.length_replicate, hm])
        have HCs : Hid (∀ i v, (List.replicate m (iv x))[i]? = some v → wr.drew.cell? ((⟨w.heap.size, 0, none⟩ : Addr).add i) = some v) := Lib.hid (fun i v hv => by
          obtain ⟨hi, rfl⟩ := List.getElem?_eq_some_iff.1 hv
          rw [List.length_replicate] at hi
          rw [List.getElem_replicate, Addr.add_lit, Nat.zero_add]
          have := HBx.out.cell i
          rw [List.getElem?_toArray, rpC_at b x j i (by omega)] at this
          exact this)
        have HCf : Hid (j + (List.replicate m (iv x)).length ≤ (rpC b x j).length) := Lib.hid (by rw [List.length_replicate, rpC_len b x j hj]; omega)
        have HC1 : Hid (∀ v ∈ List.replicate m (iv x), v.oneCell' = true) := Lib.hid (fun v hv => by rw [(List.mem_replicate.1 hv).2]; rfl)
        have HSp := Lib.hid (rpC_splice b x j m (by omega))
        have HLn : Hid ((List.replicate m (iv x)).length = m) := Lib.hid (by simp)
        have hj6 : (j : Int) ≤ 65535 := by omega
        have hm6 : (m : Int) ≤ 65535 := by omega
        have hj00 : (0 : Int) ≤ (j : Int) := by omega
        generalize List.replicate m (iv x) = CS at *
        clear hm
        go_wp2_with fail
        go_region_law (refine step_copy_row rfl (.tmp 41) (.tmp 44) 22 22 rfl 3 Tryz.underlying22 K.Tryz.size_int ⟨w.heap.size, 0, none⟩ (b - j) (b - j) j b w.heap.size j (by simp [Act.eval, Act.put, hne]) (by simp [Act.eval, Act.put]) (rpC b x j) 3 HBx.out.drew CS HCn.out HCs.out HCf.out HC1.out ?_; intro w4 hB4 ho4)
        have HB4 := Lib.hid hB4.out
        have HO4 := Lib.hid (only_just (HOx.out.drew) ho4 (Nat.le_refl _))
        rw [HSp.out] at HB4
        rw [HLn.out]
        have hw : IntKind.i64.wrap ((j : Int) + (m : Int)) = ((j + m : Nat) : Int) := by rw [K.w64k _ (by omega) (by omega)]; omega
        clear hB4 ho4
        simp only [hw, Act.put, List.getElem_toArray, List.getElem_cons_succ, List.getElem_cons_zero, List.setIfInBounds_toArray, List.set_cons_succ, List.set_cons_zero]
        go_wp2
        go_roundw
        case rel => exact ⟨j + m, by omega, by omega, by go_num, HB4.out, HO4.out⟩
        case measure => simp [intOf]; omega
      · obtain rfl : j = b := by omega
        have HF : Hid (Box wr w.heap.size 3 (List.replicate j (iv x)).toArray) := Lib.hid (by
          have := HBx.out
          unfold rpC at this
          rw [Nat.sub_self, List.replicate_zero, List.append_nil] at this
          exact this)
        go_wp2
        go_ret
        exact ⟨_, rfl, HF.out, Nat.le_refl _, HOx.out⟩
end Go.Proofs.YteklfkpeaadinaaGreatDoor.S
