/-
  put, and number: numbers in bytes.
-/
import Derived.Test.YtighdjbeddcckaaDoorVP
import Derived.Laws.CopyRow
import Derived.Shelf.Abstract
import Derived.Deep.RegionLaw
import Derived.Test.YtighdjbeddcckaaDoorIR
namespace Go.Proofs.YtighdjbeddcckaaDoor
open Go.RowKit Go.Shelf

/-- the block of a row of the call's own -/
def Row (v : Value) (k : Nat) : Prop := v.ownBlock = some k
/-- where the row lies now: where it lay, or in new memory -/
def Mvd (w : World) (v v' : Value) : Prop := v'.ownBlock = v.ownBlock ∨ ∀ g, v'.ownBlock = some g → w.heap.size ≤ g
theorem row_nix {W w w' : World} {v : Value} (h : Only Nix W w) (ho : Only (Row v) w w') (hv : ∀ g, v.ownBlock = some g → W.heap.size ≤ g) : Only Nix W w' := h.then ho (fun _ e => .inr (hv _ e))
theorem Mvd.from_ {W w : World} {v v' : Value} (hm : Mvd w v v') (hw : W.heap.size ≤ w.heap.size) (hv : ∀ g, v.ownBlock = some g → W.heap.size ≤ g) : ∀ g, v'.ownBlock = some g → W.heap.size ≤ g := fun g hg => by
  rcases hm with h | h
  · exact hv g (h ▸ hg)
  · exact Nat.le_trans hw (h g hg)
def PutRel (w : World) (base : Nat) (v : Value) (xs : List Nat) (m n : Nat) (s0 s7 : Value) (wr : World) : Prop :=
  ∃ j : Nat, j ≤ m ∧ s7 = iv ((m : Int) - 1 - (j : Int)) ∧ Owns wr base 5 byt s0 (xs ++ (be m n).take j) ∧ Only (Row v) w wr ∧ Mvd w v s0
def PutR (w : World) (base : Nat) (v : Value) (xs : List Nat) (m n : Nat) (e : Ending) (w' : World) : Prop := ∃ v', e = .returned v' ∧ Owns w' base 5 byt v' (xs ++ be m n) ∧ Only (Row v) w w' ∧ Mvd w v v'
/-- one byte more has been appended -/
theorem grow_row {w wr w1 : World} {v u v1 : Value} {o : Obj} (hw : Only (Row v) w wr) (hm : Mvd w v u) (hg : (wr.alloc o).grownBy w1 u.ownBlock) (hm1 : v1.ownBlock = u.ownBlock ∨ v1.ownBlock = some (wr.heap.size + 1)) : Only (Row v) w w1 ∧ Mvd w v v1 := by
  refine ⟨(hw.alloc o).grown hg (fun k hk => ?_), ?_⟩
  · rcases hm with h | h
    · exact .inl (h.symm.trans hk)
    · exact .inr (h k hk)
  · rcases hm1 with h1 | h1
    · rcases hm with h | h
      · exact .inl (h1.trans h)
      · exact .inr (fun g hg => h g (h1 ▸ hg))
    · refine .inr (fun g hg => ?_)
      rw [h1] at hg
      injection hg with hg
      have := hw.size
      omega
set_option maxHeartbeats 4000000 in
theorem put_any {w : World} {base : Nat} {v : Value} {xs : List Nat} (m n : Nat) (hown : Owns w base 5 byt v xs) (hb : base ≤ w.heap.size) (hm : m ≤ 8) (_hn : n < 18446744073709551616) (hx : xs.length ≤ 90000) :
    Calls Tryd.prog 15 #[v, iv m, .int .u64 (n : Int)] w fun e w' => PutR w base v xs m n e w' := by
  have HOwn := Lib.hid hown
  clear hown
  go_enter Tryd.func15, Tryd.ntmps15
  go_wp2
  go_loopw [0, 7] (fun s0 s7 wr => PutRel w base v xs m n s0 s7 wr) (fun _ s7 _ => (intOf s7 + 1).toNat)
  case atStart => exact ⟨0, Nat.zero_le _, by go_num, by simpa using HOwn.out, Only.refl _ _, .inl rfl⟩
  case round =>
    obtain ⟨j, hj, rfl, ho, hw, hmv⟩ := hrel
    have HO := Lib.hid ho
    have HW := Lib.hid hw
    have HMv := Lib.hid hmv
    have hsz := hw.size
    clear ho hw hmv
    by_cases hlt : j < m
    · obtain ⟨K, hK⟩ : ∃ K : Nat, m - 1 - j = K := ⟨_, rfl⟩
      have hKi : (m : Int) - 1 - (j : Int) = (K : Int) := by omega
      have HT := Lib.hid (be_take m n j hlt)
      rw [hK] at HT
      have hK7 : K ≤ 7 := by omega
      rw [hKi]
      have HK := Lib.hid hKi
      clear hK hKi
      have HC : Hid ((wr.alloc (.cells #[.int .u8 ((n : Int) / 2 ^ (8 * K) % 256)] 5)).cell? ⟨wr.heap.size, 0, none⟩ = some (byt (n / 2 ^ (8 * K) % 256))) := Lib.hid (by
        have e : (n : Int) / 2 ^ (8 * K) % 256 = ((n / 2 ^ (8 * K) % 256 : Nat) : Int) := by rw [pow_cast, Int.natCast_emod, Int.natCast_ediv]; rfl
        rw [e]
        exact (Box.new wr 5 #[.int .u8 ((n / 2 ^ (8 * K) % 256 : Nat) : Int)]).cell 0)
      have hl1 : (xs ++ (be m n).take j).length ≤ 100000 := by rw [List.length_append, List.length_take, be_len]; omega
      have HL1 := Lib.hid hl1
      have HSz := Lib.hid hsz
      clear hl1 hsz
      go_wp2_with (at_builtin; refine app_byte rfl (.tmp 14) (.tmp 20) rfl base u0 (xs ++ (be m n).take j) rfl ?own1 wr.heap.size (n / 2 ^ (8 * K) % 256) rfl HC.out HL1.out ?base1 ?rest1)
      case own1 => exact World.ownsRow.alloc HO.out _
      case base1 => have := HSz.out; simp; omega
      case rest1 =>
        intro v1 w1 r1 g1 m1
        have HO1 := Lib.hid r1
        have HW1 := Lib.hid (grow_row HW.out HMv.out g1 m1)
        clear r1 g1 m1
        go_wp2
        go_roundw
        case rel => exact ⟨j + 1, hlt, by rw [← HK.out]; go_num, by rw [HT.out, ← List.append_assoc]; simpa using HO1.out, HW1.out.1, HW1.out.2⟩
        case measure => simp [intOf]
    · obtain rfl : j = m := by omega
      have hneg : (j : Int) - 1 - (j : Int) = -1 := by omega
      rw [hneg]
      have HE : Hid ((be j n).take j = be j n) := Lib.hid (List.take_of_length_le (by rw [be_len]; exact Nat.le_refl _))
      clear hneg
      go_wp2
      go_ret
      exact ⟨_, rfl, by rw [← HE.out]; exact HO.out, HW.out, HMv.out⟩
theorem Owns.down {α : Type} {w : World} {a b : Nat} {e : TypeId} {f : α → Value} {v : Value} {xs : List α} (h : Owns w b e f v xs) (hab : a ≤ b) : Owns w a e f v xs := by
  refine ⟨h.1, ?_⟩
  rcases h.2 with hn | ⟨g, cap, cur, e1, hb, r⟩
  · exact .inl hn
  · exact .inr ⟨g, cap, cur, e1, Nat.le_trans hab hb, r⟩
theorem u64_wrap (n : Nat) (h : n < 18446744073709551616) : IntKind.u64.wrap (n : Int) = (n : Int) := by
  rw [IntKind.wrap_u64]; omega
theorem u64_or (a b k : Nat) (ha : a % 2 ^ k = 0) (hb : b < 2 ^ k) (hs : a + b < 18446744073709551616) : bits .or .u64 (a : Int) (b : Int) = ((a + b : Nat) : Int) := by
  have h := (bits_nat .u64 64 (by decide) (fun n h0 h1 => by rw [IntKind.wrap_u64]; omega) a b (by omega) (by omega)).2
  rw [h, nat_join k a b ha hb]
theorem Src.drop {w : World} {ad : Addr} {n c : Nat} {bs : List Nat} (h : Src w (.slice (some ad) n c) bs) (m : Nat) (hm : m ≤ n) : Src w (.slice (some (ad.add m)) (n - m) (c - m)) (bs.drop m) := by
  have hn := h.len
  refine ⟨⟨some (ad.add m), c - m, by rw [List.length_drop, ← hn], fun j hj => ⟨_, rfl, ?_⟩⟩, by have := h.small; rw [List.length_drop]; omega, fun x hx => h.lt x (List.mem_of_mem_drop hx)⟩
  rw [List.length_drop] at hj
  obtain ⟨ad', e, hx⟩ := h.at_ (k := m + j) (by omega)
  injection e with e
  subst e
  rw [add_add, hx, List.getElem_drop]
def NmRel (w : World) (bs : List Nat) (s2 s7 : Value) (wr : World) : Prop := ∃ k : Nat, k ≤ bs.length ∧ s7 = iv k ∧ s2 = .int .u64 ((vl (bs.take k) : Nat) : Int) ∧ w = wr
set_option maxHeartbeats 4000000 in
theorem number_any {w : World} {A : Option Addr} {n c : Nat} {bs : List Nat} (hs : Src w (.slice A n c) bs) (hm : bs.length ≤ 8) :
    Calls Tryd.prog 21 #[.slice A n c] w fun e w' => e = .returned (.int .u64 ((vl bs : Nat) : Int)) ∧ w = w' := by
  have hlen := hs.len
  have hsm := hs.small
  have HS := Lib.hid hs
  have Hlen := Lib.hid hlen
  have hVt : Hid (∀ k, k ≤ 8 → vl (bs.take k) < 2 ^ (8 * k)) := Lib.hid (fun k hk => by
    have := vl_lt (bs.take k) (fun x hx => hs.lt x (List.mem_of_mem_take hx))
    refine Nat.lt_of_lt_of_le this (Nat.pow_le_pow_right (by decide) ?_)
    rw [List.length_take]; omega)
  have HE : Hid (bs.take bs.length = bs) := Lib.hid (List.take_of_length_le (Nat.le_refl _))
  subst hlen
  clear hs
  go_enter Tryd.func21, Tryd.ntmps21
  go_wp2
  go_loopw [2, 7] (fun s2 s7 wr => NmRel w bs s2 s7 wr) (fun _ s7 _ => bs.length - (intOf s7).toNat)
  case atStart => exact ⟨0, Nat.zero_le _, rfl, by simp [vl], rfl⟩
  case round =>
    obtain ⟨k, hk, rfl, rfl, rfl⟩ := hrel
    by_cases hlt : k < bs.length
    · obtain ⟨ad, rfl, hx⟩ := HS.out.at_ hlt
      have hxl := HS.out.lt _ (List.getElem_mem hlt)
      have hlti : (k : Int) < (bs.length : Int) := by omega
      have HT : Hid (vl (bs.take (k + 1)) = vl (bs.take k) * 256 + bs[k]) := Lib.hid (by rw [List.take_succ_eq_append_getElem hlt, vl_snoc])
      have hV : vl (bs.take k) ≤ 72057594037927935 := by
        have := hVt.out k (by omega)
        have h2 : 2 ^ (8 * k) ≤ 2 ^ 56 := Nat.pow_le_pow_right (by decide) (by omega)
        rw [show (2 : Nat) ^ 56 = 72057594037927936 by decide] at h2
        omega
      generalize bs[k] = x at *
      generalize vl (bs.take k) = V at *
      have ho : bits .or .u64 ((V : Int) * 256) (x : Int) = ((V * 256 + x : Nat) : Int) := by
        have := u64_or (V * 256) x 8 (by omega) (by omega) (by omega)
        rwa [Int.natCast_mul] at this
      unfold byt at hx
      go_wp2
      go_roundw
      case rel => exact ⟨k + 1, hlt, by go_num, by rw [HT.out, Int.natCast_add, Int.natCast_mul]; rfl, rfl⟩
      case measure => simp [intOf]; omega
    · obtain rfl : k = bs.length := by omega
      have hlti : ¬ ((bs.length : Nat) : Int) < (bs.length : Int) := by omega
      clear hVt
      go_wp2
      go_ret
      exact ⟨rfl, rfl⟩
end Go.Proofs.YtighdjbeddcckaaDoor
