/-
  RiceBack, walked.
-/
import Derived.Test.YtliemhadgbjjiaaRAppend
namespace Go.Proofs.Ytliemhadgbjjiaa
open Go.RowKit

theorem flat_len (S s m : Nat) (ps bs l : List Int) : ∀ ks : List Nat, (∀ k ∈ ks, isP m (ps.getD k 0) (bs.getD k 0)) → (ks.flatMap fun k => partB m (ps.getD k 0) (bs.getD k 0) (pt S s l k)).length = szL S s m ps bs (l.map fd) ks
  | [], _ => by simp [szL]
  | k :: ks, h => by
    have ih := flat_len S s m ps bs l ks (fun j hj => h j (List.mem_cons_of_mem _ hj))
    have e : pt S s (l.map fd) k = (pt S s l k).map fd := by unfold pt; rw [List.map_take, List.map_drop]
    unfold szL at ih ⊢
    rw [List.flatMap_cons, List.length_append, ih, List.map_cons, List.sum_cons, partB_len m _ _ (h k (List.mem_cons_self ..)), e]
theorem Fine.isP {m o s P S : Nat} {ps bs l : List Int} (hF : Fine m o s P S ps bs l) (k : Nat) (hk : k < P) : isP m (ps.getD k 0) (bs.getD k 0) := by
  have := hF.all k (by rw [hF.np]; exact hk) (by rw [hF.nb]; exact hk)
  rw [List.getD_eq_getElem?_getD, List.getElem?_eq_getElem (by rw [hF.np]; exact hk), List.getD_eq_getElem?_getD, List.getElem?_eq_getElem (by rw [hF.nb]; exact hk)]
  exact this
theorem blockB_len {m o s P S : Nat} {ps bs l : List Int} (hF : Fine m o s P S ps bs l) : (blockB S s P m o ps bs l).length = sizeN m o ps bs s l := by
  have hpp : 0 < 2 ^ o := Nat.two_pow_pos o
  have hS : (l.length + s) / 2 ^ o = S := by rw [← hF.eq, ← hF.pw]; exact Nat.mul_div_cancel_left _ hpp
  unfold sizeN blockB
  rw [if_pos hF.sizeE]
  simp only [Int.toNat_natCast]
  rw [hS, hF.pw, List.length_append, List.length_append, bitsN_len, bitsN_len, flat_len S s m ps bs l _ (fun k hk => hF.isP k (List.mem_range.1 hk))]
theorem Parse.det {bs : List Nat} {a b s m o m' o' : Nat} {rs rs' : List (Int × Int × List Int)} {a1 a2 : Nat} (h : Parse bs a b s m o rs a1) (k : Parse bs a b s m' o' rs' a2) : m = m' ∧ o = o' ∧ rs = rs' ∧ a1 = a2 := by
  obtain ⟨h1, h2⟩ := h
  obtain ⟨k1, k2⟩ := k
  obtain ⟨_, e1, _, _, e2, _⟩ := h1
  obtain ⟨_, e3, _, _, e4, _⟩ := k1
  obtain rfl : m = m' := by rw [e1, e3]
  obtain rfl : o = o' := by rw [e2, e4]
  obtain ⟨e5, e6⟩ := h2.det k2
  exact ⟨rfl, rfl, e5, e6⟩
theorem lists_lit (w : World) (b : Nat) (v : Value) (x : Nat) (hx : x < 256) (hb : b < w.heap.size) (hv : ∀ g, v.ownBlock = some g → g < w.heap.size) :
    Lists ((w.alloc (.cells #[.int .u8 (x : Int)] 5)).alloc (.cells #[.slice (some ⟨w.heap.size, 0, none⟩) 1 1] 41)) (WF b v) (.slice (some ⟨w.heap.size + 1, 0, none⟩) 1 1) [[x]] := by
  have B0 := (Box.new w 5 #[.int .u8 (x : Int)]).alloc (.cells #[.slice (some ⟨w.heap.size, 0, none⟩) 1 1] 41)
  have B1 := Box.new (w.alloc (.cells #[.int .u8 (x : Int)] 5)) 41 #[.slice (some ⟨w.heap.size, 0, none⟩) 1 1]
  rw [World.size_alloc] at B1
  have n0 : ¬ WF b v w.heap.size := by
    rintro (e | e)
    · omega
    · have := hv _ e; omega
  have n1 : ¬ WF b v (w.heap.size + 1) := by
    rintro (e | e)
    · omega
    · have := hv _ e; omega
  refine ⟨_, 1, rfl, fun j hj => ?_⟩
  obtain rfl : j = 0 := by simp at hj; omega
  refine ⟨_, 0, ⟨w.heap.size, 0, none⟩, 1, rfl, by simp, by simp, by simpa using hx, fun w' ho => ⟨?_, fun k u hu => ?_⟩⟩
  · rw [(B1.only ho n1).cell]; rfl
  · obtain rfl : k = 0 := by
      have := (List.getElem?_eq_some_iff.1 hu).1
      simp at this
      omega
    rw [Addr.add_lit, (B0.only ho n0).cell]
    simp [byt] at hu ⊢
    exact hu
theorem block_bound {m o s P S : Nat} {ps bs l : List Int} (hF : Fine m o s P S ps bs l) : (blockB S s P m o ps bs l).length ≤ 6 + 4294967400 * (P * S) := by
  have hone : ∀ k, k < P → (partB m (ps.getD k 0) (bs.getD k 0) (pt S s l k)).length ≤ 4294967400 * S := fun k hkk => by
    have hw := frm_width S s k
    have hl1 := (frm_step S s k hF.lt).1
    have hl2 := pt_len S s P l k hF.lt hkk hF.eq
    rw [partB_len m _ _ (hF.isP k hkk)]
    have h2 := szP_bound m (ps.getD k 0) (bs.getD k 0) ((pt S s l k).map fd) hF.m1 (hF.isP k hkk) (by rw [List.length_map, hl2]; omega) (fun y hy => by
      obtain ⟨z, hz, rfl⟩ := List.mem_map.1 hy
      exact fd_lt (hF.res z (List.mem_of_mem_drop (List.mem_of_mem_take hz))))
    rw [List.length_map, hl2] at h2
    have := Nat.mul_le_mul_left 4294967400 hw
    omega
  have hsum : ∀ ks : List Nat, (∀ k ∈ ks, k < P) → (ks.flatMap fun k => partB m (ps.getD k 0) (bs.getD k 0) (pt S s l k)).length ≤ 4294967400 * (ks.length * S) := by
    intro ks
    induction ks with
    | nil => intro _; simp
    | cons k ks ih =>
      intro hk
      have h1 := ih (fun j hj => hk j (List.mem_cons_of_mem _ hj))
      have h2 := hone k (hk k (List.mem_cons_self ..))
      rw [List.flatMap_cons, List.length_append, List.length_cons]
      have e : (ks.length + 1) * S = ks.length * S + S := Nat.succ_mul _ _
      omega
  have h3 := hsum (List.range P) (fun k hk => List.mem_range.1 hk)
  rw [List.length_range] at h3
  unfold blockB
  rw [List.length_append, List.length_append, bitsN_len, bitsN_len]
  omega
theorem apart_new {w : World} {v0 : Value} {xs : List Int} {b : Nat} (h : ISrc w v0 xs) (hb : w.heap.size ≤ b) : Apart v0 b (.slice none 0 0) := fun ad n c e hn => by
  subst e
  have hl := h.len
  obtain ⟨ad2, e3, hc⟩ := h.at_ (k := 0) (by omega)
  injection e3 with e3
  subst e3
  have := World.block_lt_of_cell? w _ hc
  rw [add_block] at this
  exact ⟨by omega, by simp [Value.ownBlock]⟩
def AppP (Wa : World) (b : Nat) (L : List Nat) (n : Nat) (s11 : Value) (wr : World) : Prop :=
  ∃ (i : Nat) (X : List Nat) (v : Value) (bs : List Nat), i ≤ n ∧ s11 = iv i ∧ X.length = 8 * i ∧ Wr wr b v bs (L ++ X) ∧ (∀ g, v.ownBlock = some g → Wa.heap.size ≤ g) ∧ Only Nix Wa wr

set_option maxRecDepth 100000 in
set_option maxHeartbeats 4000000 in
theorem riceBack_walk {w : World} (m o s : Int) (A Ap Ab Az : Option Addr) (n np nb nz c cp cb cz : Nat) (ps bs l zs : List Int) (hs0 : -9223372036854775808 ≤ s) (hs1 : s ≤ 9223372036854775807)
    (hl : ISrc w (.slice A n c) l) (hps : ISrc w (.slice Ap np cp) ps) (hbs : ISrc w (.slice Ab nb cb) bs) (hzs : ISrc w (.slice Az nz cz) zs) :
    Calls Try.prog 4 #[planV m o (.slice Ap np cp) (.slice Ab nb cb), iv s, .agg #[.slice A n c, .slice Az nz cz]] w fun e w' => e = .returned (.bool true) ∧ Only Nix w w' := by
  have hn := hl.len
  have hnz := hzs.len
  have sz1 := hl.small
  have sz2 := hzs.small
  rw [← hn] at sz1
  rw [← hnz] at sz2
  obtain ⟨Wa, hWa⟩ : ∃ Wa, (w.alloc (.cells #[iv m, iv o, .slice Ap np cp, .slice Ab nb cb] 24)).alloc (.cells #[.slice A n c, .slice Az nz cz] 45) = Wa := ⟨_, rfl⟩
  have a0 := ((Only.refl Nix w).alloc (.cells #[iv m, iv o, .slice Ap np cp, .slice Ab nb cb] 24)).alloc (.cells #[.slice A n c, .slice Az nz cz] 45)
  have B0 := (Box.new w 24 #[iv m, iv o, .slice Ap np cp, .slice Ab nb cb]).alloc (.cells #[.slice A n c, .slice Az nz cz] 45)
  have B1 := Box.new (w.alloc (.cells #[iv m, iv o, .slice Ap np cp, .slice Ab nb cb] 24)) 45 #[.slice A n c, .slice Az nz cz]
  rw [World.size_alloc] at B1
  have hszA : Wa.heap.size = w.heap.size + 2 := by rw [← hWa]; simp
  rw [hWa] at a0 B0 B1
  have HL := Lib.hid (hl.nix a0)
  have HPS := Lib.hid (hps.nix a0)
  have HBS := Lib.hid (hbs.nix a0)
  have HZ := Lib.hid (hzs.nix a0)
  have HA := Lib.hid a0
  have HB0 := Lib.hid B0
  have HB1 := Lib.hid B1
  have d0 := B0.cell 0
  have d1 := B0.cell 1
  have d2 := B0.cell 2
  have d3 := B0.cell 3
  have e0 := B1.cell 0
  have e1 := B1.cell 1
  simp only [List.getElem?_toArray, List.getElem?_cons_zero, List.getElem?_cons_succ] at d0 d1 d2 d3 e0 e1
  have HFew := Lib.hid (few_any m o A Ap Ab n np nb c cp cb ps bs l HL.out HPS.out HBS.out)
  have Hn := Lib.hid hn
  have Hnz := Lib.hid hnz
  clear hl hps hbs hzs a0 B0 B1 hn hnz
  go_enter Try.func4, Try.ntmps4
  go_wp2_with fail
  refine (HFew.out).mono ?_
  rintro e w1 ⟨rr, rfl, hfew, o1⟩
  have HO1 := Lib.hid (HA.out.trans o1)
  have HAw := Lib.hid (awake5 w1)
  have C1 := HB1.out.only o1 (fun e => e)
  have g0 := C1.cell 0
  have g1 := C1.cell 1
  simp only [List.getElem?_toArray, List.getElem?_cons_zero, List.getElem?_cons_succ] at g0 g1
  cases rr with
  | false =>
    clear hfew
    go_wp2_with fail
    refine (HAw.out).mono ?_
    rintro e w2 ⟨rfl, o2⟩
    go_wp2
    go_ret
    exact ⟨rfl, HO1.out.trans o2⟩
  | true =>
    obtain ⟨hn200, _, _⟩ := hfew rfl
    clear hfew
    by_cases hs7 : 70000 < s
    · go_wp2_with fail
      refine (HAw.out).mono ?_
      rintro e w2 ⟨rfl, o2⟩
      go_wp2
      go_ret
      exact ⟨rfl, HO1.out.trans o2⟩
    · by_cases hz20 : 20 < nz
      · have hz20i : (20 : Int) < (nz : Int) := by omega
        go_wp2_with fail
        refine (HAw.out).mono ?_
        rintro e w2 ⟨rfl, o2⟩
        go_wp2
        go_ret
        exact ⟨rfl, HO1.out.trans o2⟩
      · have hz20i : ¬ ((20 : Int) < (nz : Int)) := by omega
        have HNW := Lib.hid (newWriter_any w1)
        clear HAw
        go_wp2_with fail
        refine (HNW.out).mono ?_
        rintro e w2 ⟨rfl, hW2, o2⟩
        obtain ⟨b, hb⟩ : ∃ b, w1.heap.size = b := ⟨_, rfl⟩
        have hbw : w.heap.size + 2 ≤ b := by have := o1.size; omega
        rw [hb] at hW2 ⊢
        have HO2 := Lib.hid (o1.trans o2)
        have D0 := HB0.out.only HO2.out (fun e => e)
        have h0 := D0.cell 0
        have h1 := D0.cell 1
        have h2 := D0.cell 2
        have h3 := D0.cell 3
        simp only [List.getElem?_toArray, List.getElem?_cons_zero, List.getElem?_cons_succ] at h0 h1 h2 h3
        have HW2 := Lib.hid hW2
        have Hb := Lib.hid hb
        clear hW2 o2 D0 hb C1 g0 g1 HNW
        by_cases hE : sizeE m o ps bs s l = 0
        · obtain ⟨m, o, s, rfl, rfl, rfl, hF⟩ := sizeE_zero hE
          have hbound := block_bound hF
          have heq := hF.eq
          rw [heq] at hbound
          have hbl := blockB_len hF
          have hck : ckB ((n + s : Nat) : Int) (s : Int) = 0 := by
            have h1 := hF.big
            have h2 := hF.s32
            have h3 := hF.lt
            have h4 := Nat.le_mul_of_pos_left ((l.length + s) / 2 ^ o) (Nat.two_pow_pos o)
            unfold ckB
            rw [if_neg (by rw [Hn.out]; omega)]
          have s32 := hF.s32
          have HF := Lib.hid hF
          have hEz := hF.sizeE
          have aL := apart_new (b := b) HL.out (by omega)
          have aP := apart_new (b := b) HPS.out (by omega)
          have aB := apart_new (b := b) HBS.out (by omega)
          have HWr := Lib.hid (write_ok HW2.out m o s (2 ^ o) ((l.length + s) / 2 ^ o) c n l A Ap Ab np nb cp cb ps bs hF (HL.out.nix HO2.out) (HPS.out.nix HO2.out) (HBS.out.nix HO2.out) aL aP aB (by simp))
          rw [List.nil_append] at HWr
          obtain ⟨BB, hBB⟩ : ∃ BB, blockB ((l.length + s) / 2 ^ o) s (2 ^ o) m o ps bs l = BB := ⟨_, rfl⟩
          have hback : ∀ by_ X, bitsOf by_ = BB ++ X → Parse by_ 0 (n + s) s m o (plRs ((l.length + s) / 2 ^ o) s (2 ^ o) ps bs l) BB.length := fun by_ X h => by
            have := block_back (L := []) (X := X) hF (by rw [h, hBB]; rfl)
            rw [hBB] at this
            rw [Hn.out]
            simpa using this
          rw [hBB] at HWr hbound hbl
          have HBk := Lib.hid hback
          have Hbl := Lib.hid hbl
          have Hck := Lib.hid hck
          have HEz := Lib.hid hEz
          rw [← Hn.out] at hbound
          clear hF hE hback hbl hck hBB hEz heq aL aP aB
          go_wp2_with fail
          refine (HWr.out).mono ?_
          rintro e w3 ⟨rfl, v3, bs3, hW3, ho3, hm3⟩
          have HLn := Lib.hid (len_any hW3)
          have oA3 : Only Nix Wa w3 := HO2.out.then ho3 (fun i e => by
            rcases e with e | e
            · exact .inr (by omega)
            · simp [Value.ownBlock] at e)
          have hv3 : ∀ g, v3.ownBlock = some g → Wa.heap.size ≤ g := fun g hg => by
            rcases hm3 g hg with e | e
            · simp [Value.ownBlock] at e
            · have := HO2.out.size; omega
          have HW3 := Lib.hid hW3
          have HA3 := Lib.hid oA3
          have HV3 := Lib.hid hv3
          clear hW3 ho3 hm3 oA3 hv3 HWr h0 h1 h2 h3
          go_wp2_with fail
          refine (HLn.out).mono ?_
          rintro e w4 ⟨rfl, rfl⟩
          clear HLn
          go_wp2
          go_loopw [11] (fun s11 wr => AppP Wa b BB nz s11 wr) (fun s11 _ => nz - (intOf s11).toNat)
          case atStart => exact ⟨0, [], v3, bs3, Nat.zero_le _, rfl, rfl, by rw [List.append_nil]; exact HW3.out, HV3.out, HA3.out⟩
          case round =>
            obtain ⟨i, X, v5, bs5, hi, rfl, hX, hW5, hv5, hA5⟩ := hrel
            have E1 := HB1.out.only hA5 (fun e => e)
            have k0 := E1.cell 0
            have k1 := E1.cell 1
            simp only [List.getElem?_toArray, List.getElem?_cons_zero, List.getElem?_cons_succ] at k0 k1
            by_cases hlt : i < nz
            · have hltx : i < zs.length := by rw [← Hnz.out]; exact hlt
              obtain ⟨adz, rfl, hxj⟩ := (HZ.out.nix hA5).at_ hltx
              have hft := (HZ.out).fits _ (List.getElem_mem hltx)
              have hlt2 : (i : Int) < (nz : Int) := by omega
              generalize zs[i] = x at *
              clear hltx
              obtain ⟨y, hy⟩ : ∃ y : Nat, x % 256 = (y : Int) := ⟨(x % 256).toNat, by omega⟩
              have hy2 : y < 256 := by omega
              have hwy : IntKind.u8.wrap x = (y : Int) := by rw [IntKind.wrap_u8]; exact hy
              have hbl2 := hW5.box.lt
              have hvl : ∀ g, v5.ownBlock = some g → g < wr.heap.size := fun g hg => owns_lt hW5.own hg
              have hLt := lists_lit wr b v5 y hy2 hbl2 hvl
              have hW5b := (hW5.alloc (.cells #[.int .u8 (y : Int)] 5)).alloc (.cells #[.slice (some ⟨wr.heap.size, 0, none⟩) 1 1] 41)
              have HAp := Lib.hid (append_any hW5b hLt (by simp) (fun q hq => by
                have : (bitsOf ([[y]].take q).flatten).length ≤ 8 := by
                  rw [bitsOf_len]
                  have : ([[y]].take q).flatten.length ≤ 1 := by
                    cases q with
                    | zero => simp
                    | succ q => simp
                  omega
                rw [List.length_append, List.length_append, hX]
                omega))
              have hO6 := (hA5.alloc (.cells #[.int .u8 (y : Int)] 5)).alloc (.cells #[.slice (some ⟨wr.heap.size, 0, none⟩) 1 1] 41)
              have HO6 := Lib.hid hO6
              have HV5 := Lib.hid hv5
              have HX := Lib.hid hX
              have hws := hA5.size
              clear hO6 hW5b hLt hvl hv5 hW5 E1 hX hy hA5
              go_wp2_with fail
              refine (HAp.out).mono ?_
              rintro e w6 ⟨rfl, v6, bs6, hW6, ho6, hm6⟩
              go_wp2
              go_roundw
              case rel =>
                refine ⟨i + 1, X ++ bitsOf [y], v6, bs6, by omega, by go_num, by rw [List.length_append, HX.out, bitsOf_len]; simp; omega, ?_, fun g hg => ?_, HO6.out.then ho6 (fun q e => ?_)⟩
                · rw [← List.append_assoc]
                  have : (List.flatten [[y]]) = [y] := rfl
                  rw [this] at hW6
                  exact hW6
                · rcases hm6 g hg with e | e
                  · exact HV5.out g e
                  · simp at e; omega
                · rcases e with e | e
                  · exact .inr (by omega)
                  · exact .inr (HV5.out q e)
              case measure => simp [intOf]; omega
            · obtain rfl : i = nz := by omega
              have hlt2 : decide (i < i) = false := by simp
              have hpk := hW5.packs
              have hbits := hpk.bits
              have HBy := Lib.hid (bytes_any hW5)
              have hparse := HBk.out bs5 (X ++ List.replicate (8 * bs5.length - (BB ++ X).length) 0) (by rw [hbits, List.append_assoc])
              have hb256 := hpk.lt
              have hbl5 := hW5.len
              have HPr := Lib.hid hparse
              have H256 := Lib.hid hb256
              have HA5 := Lib.hid hA5
              clear hparse hb256 hpk hbits hW5 hv5 hA5 E1
              go_wp2_with fail
              refine (HBy.out).mono ?_
              rintro e w6 ⟨v6, rfl, hown, ho6⟩
              have S6 := Src.of_owns hown (by omega)
              obtain ⟨A6, c6, hv6⟩ := S6.slice
              subst hv6
              have HNR := Lib.hid (newReader_any S6 H256.out)
              have HA6 := Lib.hid (HA5.out.trans ho6)
              clear S6 hown ho6 HBy
              go_wp2_with fail
              refine (HNR.out).mono ?_
              rintro e w7 ⟨r, rv, rfl, hR7, hN7, ho7⟩
              have HA7 := Lib.hid (HA6.out.trans ho7)
              have hr7 : Wa.heap.size ≤ r := by have := HA6.out.size; have := hN7.1; omega
              have HSz := Lib.hid (sizeR_any m o s n c A Ap Ab np nb cp cb ps bs l (by omega) (by omega) (HL.out.nix HA7.out) (HPS.out.nix HA7.out) (HBS.out.nix HA7.out))
              rw [HEz.out, ← Hbl.out] at HSz
              have F0 := HB0.out.only HA7.out (fun e => e)
              have q0 := F0.cell 0
              have q1 := F0.cell 1
              have q2 := F0.cell 2
              have q3 := F0.cell 3
              simp only [List.getElem?_toArray, List.getElem?_cons_zero, List.getElem?_cons_succ] at q0 q1 q2 q3
              have HR7 := Lib.hid hR7
              clear hR7 hN7 ho7 HNR F0
              go_wp2_with fail
              refine (HSz.out).mono ?_
              rintro e w8 ⟨rfl, o8⟩
              have HA8 := Lib.hid (HA7.out.trans o8)
              have HRd := Lib.hid (read_any (HR7.out.nix o8) (n + s) s Hck.out)
              rw [Int.natCast_add] at HRd
              clear HSz o8 q0 q1 q2 q3
              go_wp2_with fail
              refine (HRd.out).mono ?_
              rintro e w9 (⟨E, rfl, hE, hR9, ho9, hno⟩ | ⟨m', o', gp, gb, g, rs, a', rfl, hpar, bgp, bgb, bg, hR9, ho9⟩)
              · exact absurd HPr.out (hno _ _ _ _)
              · obtain ⟨i1, i2, i3, i4⟩ := HPr.out.det hpar
                subst i1
                subst i2
                subst i3
                subst i4
                have hF := HF.out
                have gPa : ISrc w9 (.slice (some ⟨gp, 0, none⟩) (2 ^ o) (2 ^ o)) ps := by
                  refine ISrc.of_box (t := 3) ?_ hF.np (Nat.le_refl _) (by have := HPS.out.small; omega) HPS.out.fits
                  have e : setAll (List.replicate (2 ^ o) 0) (List.range (2 ^ o)) ((plRs ((l.length + s) / 2 ^ o) s (2 ^ o) ps bs l).map (·.1)) = ps := by
                    unfold plRs
                    rw [List.map_map]
                    have : (List.range (2 ^ o)).map ((fun x : Int × Int × List Int => x.1) ∘ fun k => (ps.getD k 0, bs.getD k 0, pt ((l.length + s) / 2 ^ o) s l k)) = ps := range_getD ps (2 ^ o) hF.np
                    rw [this]
                    exact setAll_all ps _ _ hF.np (by simp)
                  rw [e] at bgp
                  exact bgp
                have gBa : ISrc w9 (.slice (some ⟨gb, 0, none⟩) (2 ^ o) (2 ^ o)) bs := by
                  refine ISrc.of_box (t := 3) ?_ hF.nb (Nat.le_refl _) (by have := HBS.out.small; omega) HBS.out.fits
                  have e : setAll (List.replicate (2 ^ o) 0) (List.range (2 ^ o)) ((plRs ((l.length + s) / 2 ^ o) s (2 ^ o) ps bs l).map (·.2.1)) = bs := by
                    unfold plRs
                    rw [List.map_map]
                    have : (List.range (2 ^ o)).map ((fun x : Int × Int × List Int => x.2.1) ∘ fun k => (ps.getD k 0, bs.getD k 0, pt ((l.length + s) / 2 ^ o) s l k)) = bs := range_getD bs (2 ^ o) hF.nb
                    rw [this]
                    exact setAll_all bs _ _ hF.nb (by simp)
                  rw [e] at bgb
                  exact bgb
                have gLa : ISrc w9 (.slice (some ⟨g, 0, none⟩) (n + s - s) (n + s - s)) l := by
                  refine ISrc.of_box (t := 3) ?_ (by rw [Hn.out]; omega) (Nat.le_refl _) HL.out.small HL.out.fits
                  have e : layAll ((n + s) / 2 ^ o) s (List.replicate (n + s - s) 0) (List.range (2 ^ o)) ((plRs ((l.length + s) / 2 ^ o) s (2 ^ o) ps bs l).map (·.2.2)) = l := by
                    unfold plRs
                    rw [List.map_map, ← Hn.out]
                    have h1 := hF.eq
                    have h2 := hF.lt
                    rw [← Hn.out] at h1 h2
                    exact layAll_all _ s (2 ^ o) n h2 l _ h1 Hn.out.symm (by simp)
                  rw [e] at bg
                  exact bg
                rw [Nat.add_sub_cancel] at gLa ⊢
                have oA9 : Only Nix Wa w9 := HA8.out.then ho9 (fun q e => .inr (by have : q = r := e; omega))
                have hat := hR9.cell0
                obtain ⟨Q, hQ⟩ : ∃ Q, 2 ^ o = Q := ⟨_, rfl⟩
                rw [hQ] at gPa gBa ⊢
                have oX := (Only.refl Nix w9).alloc (.cells #[iv m, iv o, .slice (some ⟨gp, 0, none⟩) Q Q, .slice (some ⟨gb, 0, none⟩) Q Q] 24)
                have BX := Box.new w9 24 #[iv m, iv o, .slice (some ⟨gp, 0, none⟩) Q Q, .slice (some ⟨gb, 0, none⟩) Q Q]
                obtain ⟨Wx, hWx⟩ : ∃ Wx, w9.alloc (.cells #[iv m, iv o, .slice (some ⟨gp, 0, none⟩) Q Q, .slice (some ⟨gb, 0, none⟩) Q Q] 24) = Wx := ⟨_, rfl⟩
                rw [hWx] at oX BX
                have oAx := oA9.trans oX
                have HI := Lib.hid (ints_yes (gLa.nix oX) (HL.out.nix oAx))
                have HSm : ∀ q, Hid (Calls Try.prog 25 #[planV m o (.slice Ap np cp) (.slice Ab nb cb), planV m o (.slice (some ⟨gp, 0, none⟩) Q Q) (.slice (some ⟨gb, 0, none⟩) Q Q)] (Wx.drewN q) fun e w' => e = .returned (.bool true) ∧ Only Nix (Wx.drewN q) w') := fun q =>
                  Lib.hid (same_plan m o Ap Ab _ _ np Q nb Q cp cb Q Q ps bs ((HPS.out.nix oAx).nix ((Only.refl Nix _).drewN q)) ((HBS.out.nix oAx).nix ((Only.refl Nix _).drewN q)) ((gPa.nix oX).nix ((Only.refl Nix _).drewN q)) ((gBa.nix oX).nix ((Only.refl Nix _).drewN q)))
                have F0 := HB0.out.only oAx (fun e => e)
                have q0 := F0.cell 0
                have q1 := F0.cell 1
                have q2 := F0.cell 2
                have q3 := F0.cell 3
                have x0 := BX.cell 0
                have x1 := BX.cell 1
                have x2 := BX.cell 2
                have x3 := BX.cell 3
                simp only [List.getElem?_toArray, List.getElem?_cons_zero, List.getElem?_cons_succ] at q0 q1 q2 q3 x0 x1 x2 x3
                have HRx := Lib.hid (hR9.nix oX)
                have HAx := Lib.hid (HA.out.trans oAx)
                clear hQ gPa gBa gLa oA9 oX BX oAx F0 hat hR9 ho9 bgp bgb bg hpar HRd hF
                go_wp2_with fail
                refine (HI.out).mono ?_
                rintro e w10 ⟨rfl, k10, rfl⟩
                have HS2 := HSm k10
                clear HSm HI
                go_wp2_with fail
                refine (HS2.out).mono ?_
                rintro e w11 ⟨rfl, o11⟩
                have HR11 := (HRx.out.drewN k10).nix o11
                have HAt := Lib.hid (at_any r BB.length w11 HR11.cell0)
                have HA11 := Lib.hid ((HAx.out.drewN k10).trans o11)
                have HAw := Lib.hid (awake5 w11)
                clear HS2 HR11 o11
                go_wp2_with fail
                refine (HAt.out).mono ?_
                rintro e w12 ⟨rfl, rfl⟩
                go_wp2_with fail
                refine (HAw.out).mono ?_
                rintro e w12 ⟨rfl, o12⟩
                go_wp2
                go_ret
                exact ⟨rfl, HA11.out.trans o12⟩
        · have HWe := Lib.hid (write_err (w := w2) b m o s (sizeE m o ps bs s l) n c A Ap Ab np nb cp cb ps bs l hs0 (by omega) (HL.out.nix HO2.out) (HPS.out.nix HO2.out) (HBS.out.nix HO2.out) rfl hE)
          have hEb : (sizeE m o ps bs s l != 0) = true := by simpa using hE
          generalize sizeE m o ps bs s l = E at *
          go_wp2_with fail
          refine (HWe.out).mono ?_
          rintro e w3 ⟨rfl, o3⟩
          have HLn := Lib.hid (len_any (HW2.out.nix o3))
          have HAw := Lib.hid (awake5 w3)
          have HO3 := Lib.hid ((HA.out.trans HO2.out).trans o3)
          clear HWe o3
          go_wp2_with fail
          refine (HLn.out).mono ?_
          rintro e w4 ⟨rfl, rfl⟩
          go_wp2_with fail
          refine (HAw.out).mono ?_
          rintro e w4 ⟨rfl, o4⟩
          go_wp2
          go_ret
          exact ⟨rfl, HO3.out.trans o4⟩
end Go.Proofs.Ytliemhadgbjjiaa
