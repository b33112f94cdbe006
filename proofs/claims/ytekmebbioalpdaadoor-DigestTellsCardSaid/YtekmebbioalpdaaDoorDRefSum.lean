/-
  The document's Sum, walked.
-/
import Derived.Test.YtekmebbioalpdaaDoorDRef
import Derived.Test.YtekmebbioalpdaaDoorDAwake
import Derived.Deep.Cut
import Derived.Deep.CutRange
namespace Go.Proofs.YtekmebbioalpdaaDoor
open Go.RowKit

/-- the document adds in another order -/
theorem smd_ref (M : List Nat) (i : Nat) (q : Q) : ad (ad (ad (ff i q.b q.c q.d) q.a) (KS.getD i 0)) (M.getD (gg i % 16) 0) = smd M i q := by
  unfold smd
  rw [show ad (ff i q.b q.c q.d) q.a = ad q.a (ff i q.b q.c q.d) from by unfold ad; rw [Nat.add_comm]]
/-- on the way through the statement that asks sines and word -/
structure SiW (W : World) (L : Nat → Bool) (u : World) : Prop where
  only : Only Nix W u
  begun : L 3 = false → u.heap.size = W.heap.size
  box : L 3 = true → Box u W.heap.size 47 (KS.map wv).toArray
section
variable {W u u' : World} {L : Nat → Bool} {i : Nat}
theorem SiW.same (h : SiW W L u) (hi : 3 ≠ i) : SiW W (andOne L i) u := by
  refine ⟨h.only, fun e => h.begun ?_, fun e => h.box ?_⟩
  · unfold andOne at e; rwa [if_neg hi] at e
  · unfold andOne at e; rwa [if_neg hi] at e
theorem SiW.drewN (h : SiW W L u) (n : Nat) (hi : 3 ≠ i) : SiW W (andOne L i) (u.drewN n) := by
  have := h.same hi
  exact ⟨this.only.drewN n, this.begun, fun e => (this.box e).drewN n⟩
theorem SiW.asked (h : SiW W L u) (hL : L 3 = false) (hb : Box u' u.heap.size 47 (KS.map wv).toArray) (ho : Only Nix u u') : SiW W (andOne L 3) u' := by
  refine ⟨h.only.trans ho, fun e => ?_, fun _ => ?_⟩
  · unfold andOne at e; rw [if_pos rfl] at e; cases e
  · rw [← h.begun hL]; exact hb
end
theorem take_cons4 (all : List Nat) (p : Nat) (hp : p + 4 ≤ all.length) : (all.drop p).take 4 = [all.getD p 0, all.getD (p + 1) 0, all.getD (p + 2) 0, all.getD (p + 3) 0] := by
  apply List.ext_getElem
  · simp; omega
  · intro j h1 h2
    have hj : j < 4 := by simpa using h2
    rw [List.getElem_take, List.getElem_drop]
    obtain rfl | rfl | rfl | rfl : j = 0 ∨ j = 1 ∨ j = 2 ∨ j = 3 := by omega
    all_goals
      simp only [List.getElem_cons_zero, List.getElem_cons_succ, List.getD_eq_getElem?_getD]
      rw [List.getElem?_eq_getElem (by omega), Option.getD_some]
    all_goals rfl
/-- a word of a block, out of all bytes -/
theorem wd_all (all : List Nat) (at_ g : Nat) (hg : g < 16) (h : at_ + 64 ≤ all.length) :
    (wds ((all.drop at_).take 64)).getD g 0 = all.getD (at_ + 4 * g) 0 + 256 * all.getD (at_ + 4 * g + 1) 0 + 65536 * all.getD (at_ + 4 * g + 2) 0 + 16777216 * all.getD (at_ + 4 * g + 3) 0 := by
  have e : ∀ j, j < 64 → ((all.drop at_).take 64).getD j 0 = all.getD (at_ + j) 0 := fun j hj => by
    rw [List.getD_eq_getElem?_getD, List.getD_eq_getElem?_getD, List.getElem?_take, if_pos hj, List.getElem?_drop]
  have h1 : (wds ((all.drop at_).take 64)).getD g 0 = wd ((all.drop at_).take 64) g := by
    unfold wds
    rw [List.getD_eq_getElem?_getD, List.getElem?_map, List.getElem?_range hg]
    rfl
  rw [h1]
  unfold wd
  rw [e _ (by omega), e _ (by omega), e _ (by omega), e _ (by omega)]
  rfl
theorem src_drop {w : World} {g o n c k m d : Nat} {bs : List Nat} (h : Src w (.slice (some ⟨g, o, none⟩) n c) bs) (hm : n - k = m) : Src w (.slice (some ⟨g, o + k, none⟩) m d) (bs.drop k) := by
  have hl := h.len
  refine Src.of_cells (by rw [List.length_drop]; omega) (fun j hj => ?_) (by have := h.small; rw [List.length_drop]; omega) (fun x hx => h.lt x (List.mem_of_mem_drop hx))
  rw [List.length_drop] at hj
  obtain ⟨ad, e, hc⟩ := h.at_ (k := k + j) (by omega)
  injection e with e
  subst e
  rw [Addr.add_lit] at hc
  rw [Nat.add_assoc, hc, List.getElem_drop]
theorem src_drop0 {w : World} {g n c k m d : Nat} {bs : List Nat} (h : Src w (.slice (some ⟨g, 0, none⟩) n c) bs) (hm : n - k = m) : Src w (.slice (some ⟨g, k, none⟩) m d) (bs.drop k) := by
  have := src_drop (d := d) h hm
  rwa [Nat.zero_add] at this
theorem src_take {w : World} {g o n c m d : Nat} {bs : List Nat} (h : Src w (.slice (some ⟨g, o, none⟩) n c) bs) (hm : m ≤ n) : Src w (.slice (some ⟨g, o, none⟩) m d) (bs.take m) := by
  have hl := h.len
  refine Src.of_cells (by rw [List.length_take]; omega) (fun j hj => ?_) (by have := h.small; rw [List.length_take]; omega) (fun x hx => h.lt x (List.mem_of_mem_take hx))
  rw [List.length_take] at hj
  obtain ⟨ad, e, hc⟩ := h.at_ (k := j) (by omega)
  injection e with e
  subst e
  rw [Addr.add_lit] at hc
  rw [hc, List.getElem_take]


/-- the first i bytes of the digest, noughts behind -/
def outP (q : Q) (i : Nat) : List Nat := (outQ q).take i ++ List.replicate (16 - i) 0
theorem out_byte (q : Q) (i : Nat) (hi : i < 16) : (outQ q)[i]? = some ([q.a, q.b, q.c, q.d].getD (i / 4) 0 / 2 ^ (8 * (i % 4)) % 256) := by
  obtain rfl | rfl | rfl | rfl | rfl | rfl | rfl | rfl | rfl | rfl | rfl | rfl | rfl | rfl | rfl | rfl : i = 0 ∨ i = 1 ∨ i = 2 ∨ i = 3 ∨ i = 4 ∨ i = 5 ∨ i = 6 ∨ i = 7 ∨ i = 8 ∨ i = 9 ∨ i = 10 ∨ i = 11 ∨ i = 12 ∨ i = 13 ∨ i = 14 ∨ i = 15 := by omega
  all_goals rfl
theorem outP_len (q : Q) (i : Nat) (hi : i ≤ 16) : (outP q i).length = 16 := by
  unfold outP; rw [List.length_append, List.length_take, out_len, List.length_replicate]; omega
theorem outP_step (q : Q) (i : Nat) (hi : i < 16) (x : Nat) (hx : (outQ q)[i]? = some x) : (outP q i).set i x = outP q (i + 1) := by
  unfold outP
  have hl := out_len q
  rw [List.set_append_right _ _ (by rw [List.length_take]; omega), List.length_take, hl, show i - min i 16 = 0 from by omega, show 16 - i = (16 - (i + 1)) + 1 from by omega, List.replicate_succ, List.set_cons_zero,
    List.take_add_one, hx, Option.toList_some, List.append_assoc, List.singleton_append]
theorem outP_all (q : Q) : outP q 16 = outQ q := by
  unfold outP
  rw [List.take_of_length_le (by rw [out_len]; omega), show 16 - 16 = 0 from rfl, List.replicate_zero, List.append_nil]
/-- where the document's loop over blocks stands -/
def LpO (w2 : World) (gH : Nat) (all : List Nat) (K : Nat) (s5 : Value) (wr : World) : Prop :=
  ∃ k : Nat, k ≤ K ∧ s5 = .int .i64 ((64 * k : Nat) : Int) ∧ Box wr gH 47 #[wv (hs k all).a, wv (hs k all).b, wv (hs k all).c, wv (hs k all).d] ∧ Only (Just gH) w2 wr
/-- where its loop over rounds stands -/
def LpI (wo : World) (M : List Nat) (q : Q) (s6 s7 s8 s9 s10 : Value) (wr : World) : Prop :=
  ∃ i : Nat, i ≤ 64 ∧ s10 = iv i ∧ s6 = .int .u32 ((rnds M i q).a : Nat) ∧ s7 = .int .u32 ((rnds M i q).b : Nat) ∧ s8 = .int .u32 ((rnds M i q).c : Nat) ∧ s9 = .int .u32 ((rnds M i q).d : Nat) ∧ Only Nix wo wr

/-- where its last loop stands -/
def OutL (w : World) (gH gO : Nat) (q : Q) (s14 : Value) (wr : World) : Prop :=
  ∃ i : Nat, i ≤ 16 ∧ s14 = iv i ∧ Box wr gO 24 ((outP q i).map byt).toArray ∧ Box wr gH 47 #[wv q.a, wv q.b, wv q.c, wv q.d] ∧ Box wr w.heap.size 24 (List.replicate 16 (Value.int .u8 0)).toArray ∧ Only Nix w wr

set_option maxRecDepth 100000 in
set_option maxHeartbeats 4000000 in
theorem refSum_any {w : World} (A : Option Addr) (c : Nat) (bs : List Nat) (hsr : Src w (.slice A bs.length c) bs) (hb : bs.length ≤ 600) :
    Calls Tryd.prog 10 #[.slice A bs.length c] w fun e w' => e = .returned (.agg ((md bs).map byt).toArray) ∧ Only Nix w w' := by
  have HS := Lib.hid hsr
  clear hsr
  have a0 := (Only.refl Nix w).alloc (.cells (List.replicate 16 (Value.int .u8 0)).toArray 24)
  have HR0 := Lib.hid (Box.new w 24 (List.replicate 16 (Value.int .u8 0)).toArray)
  have HP := Lib.hid (padded_any A c bs (HS.out.nix a0) hb)
  have hz0 : (w.alloc (.cells (List.replicate 16 (Value.int .u8 0)).toArray 24)).heap.size = w.heap.size + 1 := by simp
  rw [hz0] at HP
  have htm := tail_mod bs.length
  have htb := tail_bd bs.length
  have hmd : Hid (md bs = outQ (hs ((bs ++ tail_ bs.length).length / 64) (bs ++ tail_ bs.length))) := Lib.hid (by unfold md; rw [List.length_append])
  obtain ⟨all, hall⟩ : ∃ all, Hid (bs ++ tail_ bs.length = all) := ⟨_, Lib.hid rfl⟩
  have hal : all.length = bs.length + (tail_ bs.length).length := by rw [← hall.out, List.length_append]
  have hpos : 0 < (tail_ bs.length).length := by rw [tail_len]; omega
  have hlt : Hid (∀ x ∈ all, x < 256) := by
    refine Lib.hid (fun x hx => ?_)
    rw [← hall.out] at hx
    rcases List.mem_append.1 hx with hx | hx
    · exact HS.out.lt x hx
    · exact tail_lt _ x hx
  rw [hall.out] at HP hmd
  obtain ⟨K, hK⟩ : ∃ K, Hid (all.length / 64 = K) := ⟨_, Lib.hid rfl⟩
  have HN : Hid (all.length = 64 * K) := Lib.hid (by rw [← hK.out]; omega)
  have hK20 : K ≤ 20 := by rw [← hK.out]; omega
  have hK0 : 0 < K := by rw [← hK.out]; omega
  rw [hK.out] at hmd
  rw [HN.out] at HP
  clear hal htm htb hpos hz0
  go_enter Tryd.func10, Tryd.ntmps10
  go_wp2_with fail
  refine (HP.out).mono ?_
  rintro e w1 ⟨v1, rfl, hO1, o1⟩
  obtain ⟨g1, c1, rfl, hg1, hc1⟩ := owns_none hO1 (by omega)
  have HA1 := Lib.hid (owns_src hO1 (by rw [HN.out]; omega) hlt.out)
  have HR1 := Lib.hid (HR0.out.only o1 (fun e => e))
  have a1 := (Only.refl Nix w1).alloc (.cells #[.int .u32 1732584193, .int .u32 4023233417, .int .u32 2562383102, .int .u32 271733878] 47)
  have HH1 := Lib.hid (Box.new w1 47 #[.int .u32 1732584193, .int .u32 4023233417, .int .u32 2562383102, .int .u32 271733878])
  have hsz1 := o1.size
  clear hO1
  go_wp2
  have oa1 := (a0.trans o1).trans a1
  have HA2 := Lib.hid (HA1.out.nix a1)
  have HR2 := Lib.hid (HR1.out.alloc (.cells #[.int .u32 1732584193, .int .u32 4023233417, .int .u32 2562383102, .int .u32 271733878] 47))
  have hgr : w.heap.size < w1.heap.size := HR1.out.lt
  have hw1w : w.heap.size ≤ w1.heap.size := Nat.le_of_lt hgr
  generalize w1.alloc (.cells #[.int .u32 1732584193, .int .u32 4023233417, .int .u32 2562383102, .int .u32 271733878] 47) = w2 at *
  have hgH : w1.heap.size < w2.heap.size := HH1.out.lt
  have hg1H : g1 ≠ w1.heap.size := by
    obtain ⟨ad, e, hcx⟩ := HA1.out.at_ (k := 0) (by rw [HN.out]; omega)
    injection e with e
    subst e
    have := World.block_lt_of_cell? w1 _ hcx
    rw [add_block] at this
    exact Nat.ne_of_lt this
  generalize w1.heap.size = gH at *
  go_loopw [5] (fun s5 wr => LpO w2 gH all K s5 wr) (fun s5 _ => 64 * K - (intOf s5).toNat)
  case atStart => exact ⟨0, Nat.zero_le _, rfl, HH1.out, Only.refl _ _⟩
  case round =>
    obtain ⟨k, hk, rfl, hB, ho⟩ := hrel
    have hok := hs_ok k all
    by_cases hlt5 : k < K
    · have hstep : Hid (hs (k + 1) all = mx (wds ((all.drop (64 * k)).take 64)) (hs k all)) := Lib.hid rfl
      generalize hq : hs k all = q at *
      have d0 := hB.cell 0
      have d1 := hB.cell 1
      have d2 := hB.cell 2
      have d3 := hB.cell 3
      have d0' : wr.cell? ⟨gH, 0, none⟩ = some (.int .u32 (q.a : Int)) := d0
      have d1' : wr.cell? ⟨gH, 1, none⟩ = some (.int .u32 (q.b : Int)) := d1
      have d2' : wr.cell? ⟨gH, 2, none⟩ = some (.int .u32 (q.c : Int)) := d2
      have d3' : wr.cell? ⟨gH, 3, none⟩ = some (.int .u32 (q.d : Int)) := d3
      have HB := Lib.hid hB
      obtain ⟨t5, ht5⟩ : ∃ t5, Hid (64 * k = t5) := ⟨_, Lib.hid rfl⟩
      rw [ht5.out] at hstep ⊢
      have hN5 : t5 + 64 ≤ 64 * K := by rw [← ht5.out]; omega
      have hN6 : (t5 : Int) < ((64 * K : Nat) : Int) := by omega
      obtain ⟨N, hNN⟩ : ∃ N, Hid (64 * K = N) := ⟨_, Lib.hid rfl⟩
      rw [hNN.out] at hN5 hN6
      obtain ⟨M, hM⟩ : ∃ M, Hid (wds ((all.drop t5).take 64) = M) := ⟨_, Lib.hid rfl⟩
      rw [hM.out] at hstep
      have Hq := Lib.hid hq
      clear d0 d1 d2 d3 hB hq
      generalize hwo : wr = wo at *
      rw [hNN.out]
      have hN20 : N ≤ 1280 := by rw [← hNN.out]; omega
      have hqok : q.ok := hok
      have HAll := Lib.hid (HA2.out.only ho (fun i _ e ad n c ev => by injection ev with ev; injection ev with ev; subst ev; intro e2; exact hg1H (e2.trans e)))
      go_wp2_with fail
      go_loopw [6, 7, 8, 9, 10] (fun s6 s7 s8 s9 s10 wr => LpI wo M q s6 s7 s8 s9 s10 wr) (fun _ _ _ _ s10 _ => 64 - (intOf s10).toNat)
      case atStart => exact ⟨0, by omega, rfl, rfl, rfl, rfl, rfl, Only.refl _ _⟩
      case round =>
        obtain ⟨i, hi, rfl, rfl, rfl, rfl, rfl, ho6⟩ := hrel
        have hrok := rnds_ok M i hqok
        by_cases hlt6 : i < 64
        · clear d0' d1' d2' d3'
          have HRn : Hid (rnds M (i + 1) q = rnd M i (rnds M i q)) := Lib.hid rfl
          generalize hr0 : rnds M i q = r at *
          have Hr0 := Lib.hid hr0
          clear hr0
          obtain ⟨ra, rb, rc, rd⟩ := r
          obtain ⟨ok1, ok2, ok3, ok4⟩ := hrok
          simp only at ok1 ok2 ok3 ok4
          have hlt2 : (i : Int) < 64 := by omega
          have h0i : (0 : Int) ≤ (i : Int) := by omega
          go_upto_if 41 with fail
          go_cut [11, 12] from 36 to 120 (fun s11 s12 wx => s11 = .int .u32 (ff i rb rc rd : Nat) ∧ s12 = iv ((gg i % 16 : Nat) : Int) ∧ wx = wr)
          case first =>
            have hs32 : IntKind.u32.signed = false := rfl
            obtain h1 | ⟨h0, h1⟩ | ⟨h0, h1⟩ | ⟨h0, h1⟩ : i < 16 ∨ (16 ≤ i ∧ i < 32) ∨ (32 ≤ i ∧ i < 48) ∨ (48 ≤ i ∧ i < 64) := by omega
            · have k1 : (i : Int) < 16 := by omega
              have e1 := not32 rb ok2
              have e2 := u32_and_nat rb rc ok2 ok3
              have e3 := u32_and_nat (nt rb) rd (nt_lt _) ok4
              have e4 := u32_or_nat (rb &&& rc) (nt rb &&& rd) (and_lt32 ok2) (and_lt32 (nt_lt _))
              go_wp2
              go_meet
              exact ⟨congrArg (fun z : Nat => Value.int .u32 (z : Int)) (by unfold ff; rw [if_pos h1]), congrArg (fun z : Int => Value.int .i64 z) (by unfold gg; rw [if_pos h1]; omega), rfl⟩
            · have k0 : (16 : Int) ≤ (i : Int) := by omega
              have k1 : (i : Int) < 32 := by omega
              have e1 := not32 rd ok4
              have e2 := u32_and_nat rd rb ok4 ok2
              have e3 := u32_and_nat (nt rd) rc (nt_lt _) ok3
              have e4 := u32_or_nat (rd &&& rb) (nt rd &&& rc) (and_lt32 ok4) (and_lt32 (nt_lt _))
              have e5 : (5 * (i : Int) + 1).tmod 16 = (((5 * i + 1) % 16 : Nat) : Int) := by rw [Int.tmod_eq_emod_of_nonneg (by omega)]; omega
              go_wp2
              go_meet
              exact ⟨congrArg (fun z : Nat => Value.int .u32 (z : Int)) (by unfold ff; rw [if_neg (by omega), if_pos h1]), congrArg (fun z : Int => Value.int .i64 z) (by unfold gg; rw [if_neg (by omega), if_pos h1]; first | rfl | omega), rfl⟩
            · have k0 : (32 : Int) ≤ (i : Int) := by omega
              have k1 : (i : Int) < 48 := by omega
              have e2 := u32_xor_nat rb rc ok2 ok3
              have e3 := u32_xor_nat (rb ^^^ rc) rd (xor_lt32 ok2 ok3) ok4
              have e5 : (3 * (i : Int) + 5).tmod 16 = (((3 * i + 5) % 16 : Nat) : Int) := by rw [Int.tmod_eq_emod_of_nonneg (by omega)]; omega
              go_wp2
              go_meet
              exact ⟨congrArg (fun z : Nat => Value.int .u32 (z : Int)) (by unfold ff; rw [if_neg (by omega), if_neg (by omega), if_pos h1]), congrArg (fun z : Int => Value.int .i64 z) (by unfold gg; rw [if_neg (by omega), if_neg (by omega), if_pos h1]; first | rfl | omega), rfl⟩
            · have k0 : (48 : Int) ≤ (i : Int) := by omega
              have e1 := not32 rd ok4
              have e2 := u32_or_nat rb (nt rd) ok2 (nt_lt _)
              have e3 := u32_xor_nat rc (rb ||| nt rd) ok3 (or_lt32 ok2 (nt_lt _))
              have e5 : (7 * (i : Int)).tmod 16 = (((7 * i) % 16 : Nat) : Int) := by rw [Int.tmod_eq_emod_of_nonneg (by omega)]; omega
              go_wp2
              go_meet
              exact ⟨congrArg (fun z : Nat => Value.int .u32 (z : Int)) (by unfold ff; rw [if_neg (by omega), if_neg (by omega), if_neg (by omega)]), congrArg (fun z : Int => Value.int .i64 z) (by unfold gg; rw [if_neg (by omega), if_neg (by omega), if_neg (by omega)]; first | rfl | omega), rfl⟩
          case rest =>
          obtain ⟨rfl, rfl, rfl⟩ := hcut
          have hff := ff_lt i rb rc rd ok2 ok3 ok4
          have HS1 : Hid (ad (ad (ad (ff i rb rc rd) ra) (KS.getD i 0)) (M.getD (gg i % 16) 0) = smd M i ⟨ra, rb, rc, rd⟩) := Lib.hid (smd_ref M i ⟨ra, rb, rc, rd⟩)
          have hgi : gg i % 16 < 16 := Nat.mod_lt _ (by decide)
          have hx3l := smd_lt M i ⟨ra, rb, rc, rd⟩
          have hT32 := TS_lt (i / 16 * 4 + i % 4) (by omega)
          have Hrnd : Hid (rnd M i ⟨ra, rb, rc, rd⟩ = ⟨rd, ad rb (rt (smd M i ⟨ra, rb, rc, rd⟩) (TS.getD (i / 16 * 4 + i % 4) 0)), rb, rc⟩) := Lib.hid rfl
          have HWD : Hid (∀ u, Only Nix wc u → Calls Tryd.prog 20 #[.slice (some ⟨g1, t5 + 4 * (gg i % 16), none⟩) 4 (c1 - (t5 + 4 * (gg i % 16)))] u fun e w' => e = .returned (.int .u32 ((M.getD (gg i % 16) 0 : Nat) : Int)) ∧ ∃ n, w' = u.drewN n) := by
            refine Lib.hid (fun u o => ?_)
            have hs := (HAll.out.nix ho6).nix o
            have hle : t5 + 64 ≤ all.length := by rw [HN.out, hNN.out]; exact hN5
            have e := wd_all all t5 (gg i % 16) hgi hle
            rw [hM.out] at e
            rw [e]
            refine word_any _ _ _ _ _ _ ?_
            rw [← take_cons4 all (t5 + 4 * (gg i % 16)) (by omega)]
            refine src_take (n := N - (t5 + 4 * (gg i % 16))) (c := c1 - (t5 + 4 * (gg i % 16))) ?_ (by omega)
            exact src_drop0 (c := c1) hs (by rw [hNN.out])
          generalize hki0 : KS.getD i 0 = ki at *
          have Hki := Lib.hid hki0
          clear hki0
          generalize ff i rb rc rd = fi at *
          generalize M.getD (gg i % 16) 0 = mi at *
          generalize gg i % 16 = gi at *
          have s1 := ad_cast fi ra
          have s2 := ad_cast (ad fi ra) ki
          have s3 := ad_cast (ad (ad fi ra) ki) mi
          rw [HS1.out] at s3
          have s1' := add32 fi ra
          have s2' := add32 (ad fi ra) ki
          have s3' := add32 (ad (ad fi ra) ki) mi
          rw [HS1.out] at s3'
          generalize ad (ad fi ra) ki = x2 at *
          generalize ad fi ra = x1 at *
          generalize hx3 : smd M i ⟨ra, rb, rc, rd⟩ = x3 at *
          have Hx3 := Lib.hid hx3
          clear hx3
          generalize hsi : TS.getD (i / 16 * 4 + i % 4) 0 = si at *
          have Hsi := Lib.hid hsi
          clear hsi
          have hc1 : N ≤ c1 := by rw [← hNN.out]; exact hc1
          obtain ⟨q4, hq4⟩ : ∃ q4, 4 * gi = q4 := ⟨_, rfl⟩
          rw [hq4] at HWD
          obtain ⟨pi, hpi⟩ : ∃ pi, t5 + q4 = pi := ⟨_, rfl⟩
          rw [hpi] at HWD
          obtain ⟨pe, hpe⟩ : ∃ pe, pi + 4 = pe := ⟨_, rfl⟩
          have m1 : (4 : Int) * (gi : Int) = (q4 : Int) := by omega
          have m2 : (t5 : Int) + (q4 : Int) = (pi : Int) := by omega
          have m3 : (pi : Int) + 4 = (pe : Int) := by omega
          have hpeN : pe ≤ N := by omega
          have hpe4 : pe - pi = 4 := by omega
          have hppe : pi ≤ pe := by omega
          have hpec : pe ≤ c1 := by omega
          have w1' : IntKind.i64.wrap (q4 : Int) = (q4 : Int) := wraps_i64 _ (by omega) (by omega)
          have w2' : IntKind.i64.wrap (pi : Int) = (pi : Int) := wraps_i64 _ (by omega) (by omega)
          have w3' : IntKind.i64.wrap (pe : Int) = (pe : Int) := wraps_i64 _ (by omega) (by omega)
          have hcpi : ¬ c1 = pi := by omega
          go_upto_region 26 with fail
          obtain ⟨WS, HWS⟩ : ∃ WS, Hid (wc.heap.size = WS) := ⟨_, Lib.hid rfl⟩
          have HB6 : Hid (SiW wc (fun _ => false) wc.drew) := Lib.hid ⟨(Only.refl _ _).drew, fun _ => rfl, fun e => by cases e⟩
          have noOut6 : ∀ j s, j < 22 → (([some 85, some 86, some 87, some 88, some 89, some 90, some 91, some 92, some 93, some 94, some 95, some 96, some 97, some 98, some 99, some 100, some 101, some 102, some 103, some 104, some 105, some 11] : List (Option Nat)).all fun d => d != some s) = true → ([some 85, some 86, some 87, some 88, some 89, some 90, some 91, some 92, some 93, some 94, some 95, some 96, some 97, some 98, some 99, some 100, some 101, some 102, some 103, some 104, some 105, some 11] : List (Option Nat)).getD j none ≠ some s := by
            intro j s hj ha e
            rw [List.getD_eq_getElem?_getD, List.getElem?_eq_getElem (by exact hj), Option.getD_some] at e
            have := List.all_eq_true.1 ha _ (List.getElem_mem (by exact hj))
            rw [e] at this
            simp at this
          refine region_val (by kernel_rfl) (fun k0 => ([some 85, some 86, some 87, some 88, some 89, some 90, some 91, some 92, some 93, some 94, some 95, some 96, some 97, some 98, some 99, some 100, some 101, some 102, some 103, some 104, some 105, some 11] : List (Option Nat)).getD k0 none) (fun k0 => ([(.int .u32 (fi : Int)), (.int .u32 (ra : Int)), (.int .u32 (x1 : Int)), (.slice (some ⟨WS, 0, none⟩) 64 64), (iv (i : Int)), (.pointer (some ⟨WS, i, none⟩)), (.int .u32 (ki : Int)), (.int .u32 (x2 : Int)), (.slice (some ⟨g1, 0, none⟩) N c1), (iv (t5 : Int)), (iv (gi : Int)), (iv (q4 : Int)), (iv (pi : Int)), (iv (t5 : Int)), (iv (gi : Int)), (iv (q4 : Int)), (iv (pi : Int)), (iv (pe : Int)), (.slice (some ⟨g1, pi, none⟩) 4 (c1 - pi)), (.int .u32 (mi : Int)), (.int .u32 (x3 : Int)), (.int .u32 (x3 : Int))] : List Value).getD k0 undef) (SiW wc) 166 22 rfl (by kernel_rfl) (by kernel_rfl) rfl (by kernel_rfl) (by kernel_rfl) HB6.out ?steps6 [(85, .int .u32 (fi : Int)), (86, .int .u32 (ra : Int)), (87, .int .u32 (x1 : Int)), (88, .slice (some ⟨WS, 0, none⟩) 64 64), (89, iv (i : Int)), (90, .pointer (some ⟨WS, i, none⟩)), (91, .int .u32 (ki : Int)), (92, .int .u32 (x2 : Int)), (93, .slice (some ⟨g1, 0, none⟩) N c1), (94, iv (t5 : Int)), (95, iv (gi : Int)), (96, iv (q4 : Int)), (97, iv (pi : Int)), (98, iv (t5 : Int)), (99, iv (gi : Int)), (100, iv (q4 : Int)), (101, iv (pi : Int)), (102, iv (pe : Int)), (103, .slice (some ⟨g1, pi, none⟩) 4 (c1 - pi)), (104, .int .u32 (mi : Int)), (105, .int .u32 (x3 : Int)), (11, .int .u32 (x3 : Int))] rfl ?done6
          case steps6 =>
            refine ⟨?_, ?_, ?_, ?_, ?_, ?_, ?_, ?_, ?_, ?_, ?_, ?_, ?_, ?_, ?_, ?_, ?_, ?_, ?_, ?_, ?_, ?_, trivial⟩
            · intro L A' u hW hL0 hnd K' hK
              have hns : L 21 = false := notYet hW.closed (j := 21) (by rfl) (k := 0) (by kernel_rfl) hL0
              have r11 : A'.tmps[11]? = some (.int .u32 (fi : Int)) := (hW.fresh 21 11 (by decide) hns rfl).trans rfl
              go_simp
              exact hK _ (hW.wi.same (by decide))
            · intro L A' u hW hL0 hnd K' hK
              have r6 : A'.tmps[6]? = some (.int .u32 (ra : Int)) := (hW.out 6 (fun j hj => noOut6 j 6 hj (by kernel_rfl))).trans rfl
              go_simp
              exact hK _ (hW.wi.same (by decide))
            · intro L A' u hW hL0 hnd K' hK
              have r85 : A'.tmps[85]? = some (.int .u32 (fi : Int)) := hW.val 0 85 (by decide) (hnd 0 (by kernel_rfl)) rfl
              have r86 : A'.tmps[86]? = some (.int .u32 (ra : Int)) := hW.val 1 86 (by decide) (hnd 1 (by kernel_rfl)) rfl
              go_simp
              exact hK _ (hW.wi.same (by decide))
            · intro L A' u hW hL0 hnd K' hK
              have HCL := Lib.hid (sines_any u)
              go_simp
              refine (HCL.out).mono ?_
              rintro e' u' ⟨rfl, hb', ho'⟩
              have hz := hW.wi.begun hL0
              have hk := hK _ (hW.wi.asked hL0 hb' ho')
              rw [hz, HWS.out]
              exact hk
            · intro L A' u hW hL0 hnd K' hK
              have r10 : A'.tmps[10]? = some (iv (i : Int)) := (hW.out 10 (fun j hj => noOut6 j 10 hj (by kernel_rfl))).trans rfl
              go_simp
              exact hK _ (hW.wi.same (by decide))
            · intro L A' u hW hL0 hnd K' hK
              have r88 : A'.tmps[88]? = some (.slice (some ⟨WS, 0, none⟩) 64 64) := hW.val 3 88 (by decide) (hnd 3 (by kernel_rfl)) rfl
              have r89 : A'.tmps[89]? = some (iv (i : Int)) := hW.val 4 89 (by decide) (hnd 4 (by kernel_rfl)) rfl
              go_simp
              exact hK _ (hW.wi.same (by decide))
            · intro L A' u hW hL0 hnd K' hK
              have r90 : A'.tmps[90]? = some (.pointer (some ⟨WS, i, none⟩)) := hW.val 5 90 (by decide) (hnd 5 (by kernel_rfl)) rfl
              have l3 : L 3 = true := hW.closed 5 _ 3 (by rfl) (hnd 5 (by kernel_rfl)) (by kernel_rfl)
              have hc := (hW.wi.box l3).cell i
              rw [HWS.out, List.getElem?_toArray, KS_at i hlt6] at hc
              have hc' : u.cell? ⟨WS, i, none⟩ = some (.int .u32 ((KS.getD i 0 : Nat) : Int)) := hc
              rw [Hki.out] at hc'
              clear hc
              go_simp
              exact hK _ (hW.wi.same (by decide))
            · intro L A' u hW hL0 hnd K' hK
              have r87 : A'.tmps[87]? = some (.int .u32 (x1 : Int)) := hW.val 2 87 (by decide) (hnd 2 (by kernel_rfl)) rfl
              have r91 : A'.tmps[91]? = some (.int .u32 (ki : Int)) := hW.val 6 91 (by decide) (hnd 6 (by kernel_rfl)) rfl
              go_simp
              exact hK _ (hW.wi.same (by decide))
            · intro L A' u hW hL0 hnd K' hK
              have r3 : A'.tmps[3]? = some (.slice (some ⟨g1, 0, none⟩) N c1) := (hW.out 3 (fun j hj => noOut6 j 3 hj (by kernel_rfl))).trans rfl
              go_simp
              exact hK _ (hW.wi.same (by decide))
            · intro L A' u hW hL0 hnd K' hK
              have r5 : A'.tmps[5]? = some (iv (t5 : Int)) := (hW.out 5 (fun j hj => noOut6 j 5 hj (by kernel_rfl))).trans rfl
              go_simp
              exact hK _ (hW.wi.same (by decide))
            · intro L A' u hW hL0 hnd K' hK
              have r12 : A'.tmps[12]? = some (iv (gi : Int)) := (hW.out 12 (fun j hj => noOut6 j 12 hj (by kernel_rfl))).trans rfl
              go_simp
              exact hK _ (hW.wi.same (by decide))
            · intro L A' u hW hL0 hnd K' hK
              have r95 : A'.tmps[95]? = some (iv (gi : Int)) := hW.val 10 95 (by decide) (hnd 10 (by kernel_rfl)) rfl
              go_simp
              exact hK _ (hW.wi.same (by decide))
            · intro L A' u hW hL0 hnd K' hK
              have r94 : A'.tmps[94]? = some (iv (t5 : Int)) := hW.val 9 94 (by decide) (hnd 9 (by kernel_rfl)) rfl
              have r96 : A'.tmps[96]? = some (iv (q4 : Int)) := hW.val 11 96 (by decide) (hnd 11 (by kernel_rfl)) rfl
              go_simp
              exact hK _ (hW.wi.same (by decide))
            · intro L A' u hW hL0 hnd K' hK
              have r5 : A'.tmps[5]? = some (iv (t5 : Int)) := (hW.out 5 (fun j hj => noOut6 j 5 hj (by kernel_rfl))).trans rfl
              go_simp
              exact hK _ (hW.wi.same (by decide))
            · intro L A' u hW hL0 hnd K' hK
              have r12 : A'.tmps[12]? = some (iv (gi : Int)) := (hW.out 12 (fun j hj => noOut6 j 12 hj (by kernel_rfl))).trans rfl
              go_simp
              exact hK _ (hW.wi.same (by decide))
            · intro L A' u hW hL0 hnd K' hK
              have r99 : A'.tmps[99]? = some (iv (gi : Int)) := hW.val 14 99 (by decide) (hnd 14 (by kernel_rfl)) rfl
              go_simp
              exact hK _ (hW.wi.same (by decide))
            · intro L A' u hW hL0 hnd K' hK
              have r98 : A'.tmps[98]? = some (iv (t5 : Int)) := hW.val 13 98 (by decide) (hnd 13 (by kernel_rfl)) rfl
              have r100 : A'.tmps[100]? = some (iv (q4 : Int)) := hW.val 15 100 (by decide) (hnd 15 (by kernel_rfl)) rfl
              go_simp
              exact hK _ (hW.wi.same (by decide))
            · intro L A' u hW hL0 hnd K' hK
              have r101 : A'.tmps[101]? = some (iv (pi : Int)) := hW.val 16 101 (by decide) (hnd 16 (by kernel_rfl)) rfl
              go_simp
              exact hK _ (hW.wi.same (by decide))
            · intro L A' u hW hL0 hnd K' hK
              have r93 : A'.tmps[93]? = some (.slice (some ⟨g1, 0, none⟩) N c1) := hW.val 8 93 (by decide) (hnd 8 (by kernel_rfl)) rfl
              have r97 : A'.tmps[97]? = some (iv (pi : Int)) := hW.val 12 97 (by decide) (hnd 12 (by kernel_rfl)) rfl
              have r102 : A'.tmps[102]? = some (iv (pe : Int)) := hW.val 17 102 (by decide) (hnd 17 (by kernel_rfl)) rfl
              go_simp
              exact hK _ (hW.wi.same (by decide))
            · intro L A' u hW hL0 hnd K' hK
              have r103 : A'.tmps[103]? = some (.slice (some ⟨g1, pi, none⟩) 4 (c1 - pi)) := hW.val 18 103 (by decide) (hnd 18 (by kernel_rfl)) rfl
              have HCL := Lib.hid (HWD.out u hW.wi.only)
              go_simp
              refine (HCL.out).mono ?_
              rintro e' u' ⟨rfl, n', rfl⟩
              exact hK _ (hW.wi.drewN n' (by decide))
            · intro L A' u hW hL0 hnd K' hK
              have r92 : A'.tmps[92]? = some (.int .u32 (x2 : Int)) := hW.val 7 92 (by decide) (hnd 7 (by kernel_rfl)) rfl
              have r104 : A'.tmps[104]? = some (.int .u32 (mi : Int)) := hW.val 19 104 (by decide) (hnd 19 (by kernel_rfl)) rfl
              go_simp
              exact hK _ (hW.wi.same (by decide))
            · intro L A' u hW hL0 hnd K' hK
              have r105 : A'.tmps[105]? = some (.int .u32 (x3 : Int)) := hW.val 20 105 (by decide) (hnd 20 (by kernel_rfl)) rfl
              go_simp
              exact hK _ (hW.wi.same (by decide))
          case done6 =>
            intro L u hWI hall
            have ho7 := hWI.only
            clear hWI HB6 HWS HWD s1 s2 s3 s1' s2' s3' hall noOut6
            simp only [putV]
            have ho8 := ho6.trans ho7
            clear ho6 ho7
            have y1e := shl32 x3 si
            generalize hy1 : x3 * 2 ^ si % 4294967296 = y1 at *
            have y2e := shr32 x3 (32 - si)
            generalize hy2 : x3 / 2 ^ (32 - si) = y2 at *
            have x5e := u32_or_nat y1 y2 (by rw [← hy1]; exact Nat.mod_lt _ (by decide)) (by rw [← hy2]; exact Nat.lt_of_le_of_lt (Nat.div_le_self _ _) hx3l)
            have Hrt : Hid (rt x3 si = y1 ||| y2) := Lib.hid (by unfold rt; rw [hy1, hy2])
            rw [Hrt.out] at Hrnd
            clear hy1 hy2
            generalize y1 ||| y2 = x5 at *
            have x4e := add32 rb x5
            have x4c := ad_cast rb x5
            generalize ad rb x5 = x4 at *
            obtain ⟨sj, hsj⟩ : ∃ sj, 32 - si = sj := ⟨_, rfl⟩
            rw [hsj] at y2e
            have hsj2 : (32 : Int) - (si : Int) = (sj : Int) := by omega
            have y1f := y1e
            rw [IntKind.wrap_u32] at y1f
            have wsj : IntKind.i64.wrap (sj : Int) = (sj : Int) := wraps_i64 _ (by omega) (by omega)
            go_upto_region 30 with fail
            generalize u = wc at *
            have HB0 : Hid (Only Nix wc wc.drew) := Lib.hid ((Only.refl _ _).drew)
            have noOut0 : ∀ j s, j < 13 → (([some 109, some 110, some 111, some 112, some 113, some 114, some 115, some 116, some 117, some 118, some 119, some 120, some 7] : List (Option Nat)).all fun d => d != some s) = true → ([some 109, some 110, some 111, some 112, some 113, some 114, some 115, some 116, some 117, some 118, some 119, some 120, some 7] : List (Option Nat)).getD j none ≠ some s := by
              intro j s hj ha e
              rw [List.getD_eq_getElem?_getD, List.getElem?_eq_getElem (by exact hj), Option.getD_some] at e
              have := List.all_eq_true.1 ha _ (List.getElem_mem (by exact hj))
              rw [e] at this
              simp at this
            refine region_val (by kernel_rfl) (fun k0 => ([some 109, some 110, some 111, some 112, some 113, some 114, some 115, some 116, some 117, some 118, some 119, some 120, some 7] : List (Option Nat)).getD k0 none) (fun k0 => ([(.int .u32 (rb : Int)), (.int .u32 (x3 : Int)), (iv (i : Int)), (iv (si : Int)), (.int .u32 (y1 : Int)), (.int .u32 (x3 : Int)), (iv (i : Int)), (iv (si : Int)), (iv (sj : Int)), (.int .u32 (y2 : Int)), (.int .u32 (x5 : Int)), (.int .u32 (x4 : Int)), (.int .u32 (x4 : Int))] : List Value).getD k0 undef) (fun _ u => Only Nix wc u) 166 13 rfl (by kernel_rfl) (by kernel_rfl) rfl (by kernel_rfl) (by kernel_rfl) HB0.out ?steps0 [(109, .int .u32 (rb : Int)), (110, .int .u32 (x3 : Int)), (111, iv (i : Int)), (112, iv (si : Int)), (113, .int .u32 (y1 : Int)), (114, .int .u32 (x3 : Int)), (115, iv (i : Int)), (116, iv (si : Int)), (117, iv (sj : Int)), (118, .int .u32 (y2 : Int)), (119, .int .u32 (x5 : Int)), (120, .int .u32 (x4 : Int)), (7, .int .u32 (x4 : Int))] rfl ?done0
            case steps0 =>
              refine ⟨?_, ?_, ?_, ?_, ?_, ?_, ?_, ?_, ?_, ?_, ?_, ?_, ?_, trivial⟩
              · intro L A' u hW hL0 hnd K' hK
                have hns : L 12 = false := notYet hW.closed (j := 12) (by rfl) (k := 0) (by kernel_rfl) hL0
                have r7 : A'.tmps[7]? = some (.int .u32 (rb : Int)) := (hW.fresh 12 7 (by decide) hns rfl).trans rfl
                go_simp
                exact hK _ (hW.wi)
              · intro L A' u hW hL0 hnd K' hK
                have r11 : A'.tmps[11]? = some (.int .u32 (x3 : Int)) := (hW.out 11 (fun j hj => noOut0 j 11 hj (by kernel_rfl))).trans rfl
                go_simp
                exact hK _ (hW.wi)
              · intro L A' u hW hL0 hnd K' hK
                have r10 : A'.tmps[10]? = some (iv (i : Int)) := (hW.out 10 (fun j hj => noOut0 j 10 hj (by kernel_rfl))).trans rfl
                go_simp
                exact hK _ (hW.wi)
              · intro L A' u hW hL0 hnd K' hK
                have r111 : A'.tmps[111]? = some (iv (i : Int)) := hW.val 2 111 (by decide) (hnd 2 (by kernel_rfl)) rfl
                have HCL := Lib.hid (turns_any (w := u) i hlt6)
                rw [Hsi.out] at HCL
                go_simp
                refine (HCL.out).mono ?_
                rintro e' u' ⟨rfl, ho'⟩
                exact hK _ (Only.trans hW.wi ho')
              · intro L A' u hW hL0 hnd K' hK
                have r110 : A'.tmps[110]? = some (.int .u32 (x3 : Int)) := hW.val 1 110 (by decide) (hnd 1 (by kernel_rfl)) rfl
                have r112 : A'.tmps[112]? = some (iv (si : Int)) := hW.val 3 112 (by decide) (hnd 3 (by kernel_rfl)) rfl
                go_simp
                exact hK _ (hW.wi)
              · intro L A' u hW hL0 hnd K' hK
                have r11 : A'.tmps[11]? = some (.int .u32 (x3 : Int)) := (hW.out 11 (fun j hj => noOut0 j 11 hj (by kernel_rfl))).trans rfl
                go_simp
                exact hK _ (hW.wi)
              · intro L A' u hW hL0 hnd K' hK
                have r10 : A'.tmps[10]? = some (iv (i : Int)) := (hW.out 10 (fun j hj => noOut0 j 10 hj (by kernel_rfl))).trans rfl
                go_simp
                exact hK _ (hW.wi)
              · intro L A' u hW hL0 hnd K' hK
                have r115 : A'.tmps[115]? = some (iv (i : Int)) := hW.val 6 115 (by decide) (hnd 6 (by kernel_rfl)) rfl
                have HCL := Lib.hid (turns_any (w := u) i hlt6)
                rw [Hsi.out] at HCL
                go_simp
                refine (HCL.out).mono ?_
                rintro e' u' ⟨rfl, ho'⟩
                exact hK _ (Only.trans hW.wi ho')
              · intro L A' u hW hL0 hnd K' hK
                have r116 : A'.tmps[116]? = some (iv (si : Int)) := hW.val 7 116 (by decide) (hnd 7 (by kernel_rfl)) rfl
                go_simp
                exact hK _ (hW.wi)
              · intro L A' u hW hL0 hnd K' hK
                have r114 : A'.tmps[114]? = some (.int .u32 (x3 : Int)) := hW.val 5 114 (by decide) (hnd 5 (by kernel_rfl)) rfl
                have r117 : A'.tmps[117]? = some (iv (sj : Int)) := hW.val 8 117 (by decide) (hnd 8 (by kernel_rfl)) rfl
                go_simp
                exact hK _ (hW.wi)
              · intro L A' u hW hL0 hnd K' hK
                have r113 : A'.tmps[113]? = some (.int .u32 (y1 : Int)) := hW.val 4 113 (by decide) (hnd 4 (by kernel_rfl)) rfl
                have r118 : A'.tmps[118]? = some (.int .u32 (y2 : Int)) := hW.val 9 118 (by decide) (hnd 9 (by kernel_rfl)) rfl
                go_simp
                exact hK _ (hW.wi)
              · intro L A' u hW hL0 hnd K' hK
                have r109 : A'.tmps[109]? = some (.int .u32 (rb : Int)) := hW.val 0 109 (by decide) (hnd 0 (by kernel_rfl)) rfl
                have r119 : A'.tmps[119]? = some (.int .u32 (x5 : Int)) := hW.val 10 119 (by decide) (hnd 10 (by kernel_rfl)) rfl
                go_simp
                exact hK _ (hW.wi)
              · intro L A' u hW hL0 hnd K' hK
                have r120 : A'.tmps[120]? = some (.int .u32 (x4 : Int)) := hW.val 11 120 (by decide) (hnd 11 (by kernel_rfl)) rfl
                go_simp
                exact hK _ (hW.wi)
            case done0 =>
              intro L u hWI hall
              have ho9 := ho8.trans hWI
              clear hWI HB0 hall noOut0
              simp only [putV]
              go_wp2
              refine ⟨⟨i + 1, by omega, by go_num, ?_, ?_, ?_, ?_, ho9⟩, by simp [intOf]; omega⟩
              all_goals rw [HRn.out, Hrnd.out]
        · have hi64 : i = 64 := by omega
          have HE : Hid (upd 4 q (rnds M i q) = mx M q) := Lib.hid (mx_upd i _ _ hi64)
          have hB7 := HB.out.only ho6 (fun e => e)
          have ho7 := ho.trans ho6.nix
          generalize rnds M i q = r at *
          obtain ⟨ra, rb, rc, rd⟩ := r
          clear d0' d1' d2' d3' hrok
          have d0 := hB7.cell 0
          have d1 := hB7.cell 1
          have d2 := hB7.cell 2
          have d3 := hB7.cell 3
          have f0 := hB7.frozen 0
          have f1 := hB7.frozen 1
          have f2 := hB7.frozen 2
          have f3 := hB7.frozen 3
          have d0' : wr.cell? ⟨gH, 0, none⟩ = some (.int .u32 (q.a : Int)) := d0
          have d1' : wr.cell? ⟨gH, 1, none⟩ = some (.int .u32 (q.b : Int)) := d1
          have d2' : wr.cell? ⟨gH, 2, none⟩ = some (.int .u32 (q.c : Int)) := d2
          have d3' : wr.cell? ⟨gH, 3, none⟩ = some (.int .u32 (q.d : Int)) := d3
          have HB8 := Lib.hid ((((hB7.put 0 (wv (ad q.a ra))).put 1 (wv (ad q.b rb))).put 2 (wv (ad q.c rc))).put 3 (wv (ad q.d rd)))
          have HO8 := Lib.hid ((((ho7.setCell (p := ⟨gH, 0, none⟩) (.inl rfl) (wv (ad q.a ra))).setCell (p := ⟨gH, 1, none⟩) (.inl rfl) (wv (ad q.b rb))).setCell (p := ⟨gH, 2, none⟩) (.inl rfl) (wv (ad q.c rc))).setCell (p := ⟨gH, 3, none⟩) (.inl rfl) (wv (ad q.d rd)))
          have s0 := ad_cast q.a ra
          have s1 := ad_cast q.b rb
          have s2 := ad_cast q.c rc
          have s3 := ad_cast q.d rd
          have hi2 : decide (i < 64) = false := by simp; omega
          have hi3 : ¬ (i : Int) < 64 := by omega
          have HU : Hid (hs (k + 1) all = ⟨ad q.a ra, ad q.b rb, ad q.c rc, ad q.d rd⟩) := Lib.hid (by rw [hstep.out, ← HE.out]; rfl)
          clear d0 d1 d2 d3 HE hB7
          generalize ad q.a ra = z0 at *
          generalize ad q.b rb = z1 at *
          generalize ad q.c rc = z2 at *
          generalize ad q.d rd = z3 at *
          unfold wv at HB8 HO8
          go_wp2
          refine ⟨⟨k + 1, by omega, ?_, ?_, HO8.out⟩, by have e1 := ht5.out; have e2 := hNN.out; simp [intOf]; omega⟩
          · have e1 := ht5.out; congr 1; omega
          · rw [HU.out]; exact HB8.out
    · obtain rfl : k = K := by omega
      have HB := Lib.hid hB
      have HU : Hid (md bs = outQ (hs k all)) := hmd
      have HR3 := HR2.out.only ho (fun e => Nat.ne_of_lt hgr e)
      clear hB
      generalize hs k all = q at *
      go_wp2
      generalize hwo : wr = wo at *
      have HO0 := Lib.hid (Box.new wo 24 (List.replicate 16 (Value.int .u8 0)).toArray)
      have a3 := (Only.refl Nix wo).alloc (.cells (List.replicate 16 (Value.int .u8 0)).toArray 24)
      have HH3 := Lib.hid (HB.out.only a3 (fun e => e))
      have HR4 := Lib.hid (HR3.only a3 (fun e => e))
      have ho4 := (oa1.then ho (fun i e => .inr (by subst e; exact hw1w))).trans a3
      have hlH := HB.out.lt
      have hlR := HR3.lt
      have n1 : gH ≠ wo.heap.size := by omega
      have n2 : w.heap.size ≠ wo.heap.size := by omega
      have n3 : w.heap.size ≤ wo.heap.size := by omega
      clear hwo
      go_loopw [14] (fun s14 wz => OutL w gH wo.heap.size q s14 wz) (fun s14 _ => 16 - (intOf s14).toNat)
      case atStart => exact ⟨0, by omega, rfl, HO0.out, HH3.out, HR4.out, ho4⟩
      case round =>
        obtain ⟨i, hi, rfl, hO, hH, hR, ho5⟩ := hrel
        by_cases hlt7 : i < 16
        · have hx := out_byte q i hlt7
          have hcell := hH.cell (i / 4)
          have hqe : (#[wv q.a, wv q.b, wv q.c, wv q.d] : Array Value)[i / 4]? = some (wv ([q.a, q.b, q.c, q.d].getD (i / 4) 0)) := by
            obtain e | e | e | e : i / 4 = 0 ∨ i / 4 = 1 ∨ i / 4 = 2 ∨ i / 4 = 3 := by omega
            all_goals rw [e]; rfl
          rw [hqe] at hcell
          generalize [q.a, q.b, q.c, q.d].getD (i / 4) 0 = z at *
          have hcell' : wr.cell? ⟨gH, i / 4, none⟩ = some (.int .u32 (z : Int)) := hcell
          have hfo := hO.frozen i
          have hco := hO.cell i
          have hci : ((outP q i).map byt).toArray[i]? = some (.int .u8 ((0 : Nat) : Int)) := by
            rw [List.getElem?_toArray, List.getElem?_map]
            unfold outP
            rw [List.getElem?_append_right (by rw [List.length_take]; omega), List.length_take, out_len, show i - min i 16 = 0 from by omega, show 16 - i = (16 - (i + 1)) + 1 from by omega, List.replicate_succ]
            rfl
          rw [hci] at hco
          have hzv : (z : Int) / 2 ^ (8 * (i % 4)) % 256 = ((z / 2 ^ (8 * (i % 4)) % 256 : Nat) : Int) := by
            rw [shr32]; omega
          have HP := Lib.hid (outP_step q i hlt7 _ hx)
          have HO5 := Lib.hid (hO.put i (.int .u8 ((z / 2 ^ (8 * (i % 4)) % 256 : Nat) : Int)))
          have HH5 := Lib.hid hH
          have HR5 := Lib.hid hR
          clear hx hcell hqe hO hH hR hci
          have hlt8 : (i : Int) < 16 := by omega
          generalize hv : z / 2 ^ (8 * (i % 4)) % 256 = v at *
          clear hv
          go_wp2
          refine ⟨⟨i + 1, by omega, by go_num, ?_, HH5.out.off n1 _, HR5.out.off n2 _, ho5.setCell (.inr n3) _⟩, by simp [intOf]; omega⟩
          rw [← HP.out, List.map_set, ← List.setIfInBounds_toArray]
          exact HO5.out
        · obtain rfl : i = 16 := by omega
          rw [outP_all, ← HU.out] at hO
          have hi2 : (Tryd.prog.info? 24).map (·.size) = some ((md bs).map byt).toArray.size := by
            rw [List.size_toArray, List.length_map, HU.out, out_len]; kernel_rfl
          have Hi2 := Lib.hid hi2
          have Hl : Hid ((List.replicate 16 (Value.int .u8 0)).length = ((md bs).map byt).length) := Lib.hid (by rw [List.length_map, HU.out, out_len]; rfl)
          have HW1 := Lib.hid (map_byt_one (md bs))
          have HM := Lib.hid hO
          have HR := Lib.hid hR
          clear hi2 hO hR
          generalize hW : (md bs).map byt = W at *
          have HW := Lib.hid hW
          clear hW
          go_wp2_with first
            | refine wpList_load_row rfl 24 _ rfl wo.heap.size rfl 24 W.toArray (0, 0) _ HM.out Tryd.underlying24 rfl Hi2.out ?_
            | refine wpList_store_mid rfl 24 _ _ rfl w.heap.size 0 W.toArray rfl rfl (HR.out.there (by rw [List.size_toArray, List.size_toArray, Hl.out]; omega)) Hi2.out (all_oneCell_toArray HW1.out) ?_
          have hE := HR.out.setAll (vs := W) Hl.out
          refine bodyPost_ret (results_cell_row rfl _ _ w.heap.size 24 W.toArray (0, 0) _ rfl hE Tryd.underlying24 rfl Hi2.out) rfl ⟨by rw [HW.out], ?_⟩
          exact ho5.setCells (.inr (Nat.le_refl _)) _ _
end Go.Proofs.YtekmebbioalpdaaDoor
