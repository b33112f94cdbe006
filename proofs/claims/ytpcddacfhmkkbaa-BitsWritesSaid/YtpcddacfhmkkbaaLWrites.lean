/-
  BitsWrites, walked.
-/
import Derived.Test.YtpcddacfhmkkbaaRefBytes
import Derived.Test.YtpcddacfhmkkbaaAppend
import Derived.Test.YtpcddacfhmkkbaaLBack
namespace Go.Proofs.Ytpcddacfhmkkbaa
open Go.RowKit

/-- at the head of the loop -/
def WritesRel (w : World) (os : List Op3) (s4 s5 : Value) (wr : World) : Prop :=
  ∃ (i : Nat) (L : List Nat) (v : Value) (bs : List Nat), i ≤ os.length ∧ s5 = iv i ∧ Wr wr w.heap.size v bs L ∧ Bitrow wr w.heap.size s4 L ∧ L.length ≤ i * 1001 ∧ Only Nix w wr ∧ ∀ g, v.ownBlock = some g → w.heap.size ≤ g

theorem unL_len2 (L : List Nat) (x : Int) (i : Nat) (h : x ≤ 1000 ∨ 65536 < x) (hL : L.length ≤ i * 1001) : (unL L x).length ≤ i * 1001 + 1001 := by
  rcases h with h | h
  · exact Nat.le_trans (unL_len L x h) (by omega)
  · have e1 : unE x = 10 := by unfold unE; rw [if_pos (Or.inr h)]
    have e2 : unL L x = L := by unfold unL; rw [e1]; rfl
    rw [e2]
    exact Nat.le_trans hL (Nat.le_add_right _ _)
def AlignRel (w : World) (base : Nat) (v : Value) (L : List Nat) (s4 s9 : Value) (wi : World) : Prop := ∃ j : Nat, j ≤ padN L.length ∧ s9 = iv j ∧ RowTo w base v s4 (L ++ List.replicate j 0) wi

theorem src_lit2 (w : World) (y1 y2 : Nat) : Src (w.alloc (.cells #[.int .u8 (y1 : Int), .int .u8 (y2 : Int)] 5)) (.slice (some ⟨w.heap.size, 0, none⟩) 2 2) [y1, y2] :=
  Src.of_owns (World.ownsRow_lit (base := 0) (size := 1) w #[.int .u8 (y1 : Int), .int .u8 (y2 : Int)] 2 (Nat.zero_le _) (by unfold maxLen; omega) rfl) (by simp)
theorem lists_two (wr : World) (o0 : Obj) (y1 y2 : Nat) (F : Nat → Prop) (hF : ∀ k, F k → k < wr.heap.size) (h1 : y1 < 256) (h2 : y2 < 256) :
    Lists ((((wr.alloc o0).alloc (.cells #[.int .u8 (y1 : Int)] 5)).alloc (.cells #[.int .u8 (y2 : Int)] 5)).alloc (.cells #[.slice (some ⟨wr.heap.size + 1, 0, none⟩) 1 1, .slice (some ⟨wr.heap.size + 1 + 1, 0, none⟩) 1 1] 22)) F (.slice (some ⟨wr.heap.size + 1 + 1 + 1, 0, none⟩) 2 2) [[y1], [y2]] := by
  have b1 := ((Box.new (wr.alloc o0) 5 #[.int .u8 (y1 : Int)]).alloc (.cells #[.int .u8 (y2 : Int)] 5)).alloc (.cells #[.slice (some ⟨wr.heap.size + 1, 0, none⟩) 1 1, .slice (some ⟨wr.heap.size + 1 + 1, 0, none⟩) 1 1] 22)
  have b2 := (Box.new ((wr.alloc o0).alloc (.cells #[.int .u8 (y1 : Int)] 5)) 5 #[.int .u8 (y2 : Int)]).alloc (.cells #[.slice (some ⟨wr.heap.size + 1, 0, none⟩) 1 1, .slice (some ⟨wr.heap.size + 1 + 1, 0, none⟩) 1 1] 22)
  have b3 := Box.new (((wr.alloc o0).alloc (.cells #[.int .u8 (y1 : Int)] 5)).alloc (.cells #[.int .u8 (y2 : Int)] 5)) 22 #[.slice (some ⟨wr.heap.size + 1, 0, none⟩) 1 1, .slice (some ⟨wr.heap.size + 1 + 1, 0, none⟩) 1 1]
  simp only [World.size_alloc] at b1 b2 b3
  refine ⟨_, 2, rfl, fun j hj => ?_⟩
  match j, hj with
  | 0, _ =>
    refine ⟨wr.heap.size + 1 + 1 + 1, 0, ⟨wr.heap.size + 1, 0, none⟩, 1, rfl, by simp, by simp, by simp [h1], fun w' hw' => ⟨?_, fun k u hu => ?_⟩⟩
    · have h9 := (b3.only hw' (fun e => by have := hF _ e; omega)).cell 0
      simpa using h9
    · rw [Addr.add_lit]
      have h9 := (b1.only hw' (fun e => by have := hF _ e; omega)).cell k
      match k, hu with
      | 0, hu => simp [byt] at hu; subst hu; simpa using h9
  | 1, _ =>
    refine ⟨wr.heap.size + 1 + 1 + 1, 0, ⟨wr.heap.size + 1 + 1, 0, none⟩, 1, rfl, by simp, by simp, by simp [h2], fun w' hw' => ⟨?_, fun k u hu => ?_⟩⟩
    · have h9 := (b3.only hw' (fun e => by have := hF _ e; omega)).cell 1
      simpa using h9
    · rw [Addr.add_lit]
      have h9 := (b2.only hw' (fun e => by have := hF _ e; omega)).cell k
      match k, hu with
      | 0, hu => simp [byt] at hu; subst hu; simpa using h9
/-- behind a call of the Writer -/
theorem wr_step {w wr w2 : World} {v s4 : Value} {bs L L' L0 : List Nat} (hW : Wr wr w.heap.size v bs L) (hrow : Bitrow wr w.heap.size s4 L0) (ho : Only Nix w wr)
    (hvg : ∀ g, v.ownBlock = some g → w.heap.size ≤ g) (h : WrTo wr w.heap.size v L' w2) :
    ∃ v' bs', Wr w2 w.heap.size v' bs' L' ∧ Bitrow w2 w.heap.size s4 L0 ∧ Only Nix w w2 ∧ (∀ g, v'.ownBlock = some g → w.heap.size ≤ g) ∧ Only (WF w.heap.size v) wr w2 := by
  obtain ⟨v', bs', h1, h2, h3⟩ := h
  have hsz := ho.size
  refine ⟨v', bs', h1, ?_, ?_, ?_, h2⟩
  · refine owns_only hrow h2 (fun g hg => ?_)
    rintro (e | e)
    · exact owns_box hrow hW.box (by decide) (by rw [hg, e])
    · exact owns_owns hrow hW.own (by decide) g hg e
  · refine ho.then h2 ?_
    rintro k (e | e)
    · exact .inr (by omega)
    · exact .inr (hvg k e)
  · intro g hg
    rcases h3 g hg with e | e
    · exact hvg g e
    · omega
/-- behind a call of the document's answer -/
theorem ref_step {w w2 w3 : World} {v s4 s4' : Value} {bs L L0 L1 : List Nat} (hW : Wr w2 w.heap.size v bs L) (hrow : Bitrow w2 w.heap.size s4 L0) (ho : Only Nix w w2) (h : RowTo w2 w.heap.size s4 s4' L1 w3) : Wr w3 w.heap.size v bs L ∧ Only Nix w w3 := by
  obtain ⟨_, h2, _⟩ := h
  refine ⟨hW.keep h2 (owns_box hrow hW.box (by decide)) (fun g hg => owns_owns hW.own hrow (by decide) g hg), ho.then h2 (fun k e => .inr (hrow.lt k e).1)⟩
/-- the box of the call is still there -/
theorem box_step {w wr w2 : World} {v : Value} {bs L : List Nat} {cs : Array Value} {q : Nat} (hW : Wr wr w.heap.size v bs L) (hb : Box wr q 35 cs) (h : Only (WF w.heap.size v) wr w2) : Box w2 q 35 cs := by
  refine hb.only h ?_
  rintro (e | e)
  · exact hb.type_ne hW.box (by decide) e
  · exact owns_box hW.own hb (by decide) e

set_option maxHeartbeats 4000000 in
set_option maxRecDepth 100000 in
theorem bitsWrites_walk (v0 : Value) (os : List Op3) (w : World) (h : OpsIn w v0 os) (hs : os.length ≤ maxLen) :
    Calls Try.prog 4 #[v0] w fun e w' => e = .returned (.bool true) ∧ Only Nix w w' := by
  obtain ⟨A, c, hv⟩ := h.slice
  subst hv
  unfold maxLen at hs
  obtain ⟨i0, hi, hz0, hz1, hz2⟩ := info_parts Try.info_int
  go_enter Try.func4, Try.ntmps4
  go_wp2_with fail
  refine (newWriter_any w).mono ?_
  rintro e w1 ⟨rfl, hW, ho⟩
  by_cases hlen : 60 < os.length
  · have hd : (60 : Int) < (os.length : Int) := by omega
    go_wp2_with fail
    refine (awake_any _).mono ?_
    rintro e w2 ⟨rfl, ho2⟩
    go_wp2
    go_ret
    exact ⟨rfl, ho.trans ho2⟩
  · have hd : ¬ (60 : Int) < (os.length : Int) := by omega
    have hd2 : decide ((60 : Int) < (os.length : Int)) = false := by simpa using hd
    go_wp2
    go_loopw [4, 5] (fun s4 s5 wr => WritesRel w os s4 s5 wr) (fun _ s5 _ => os.length - (intOf s5).toNat)
    case atStart => exact ⟨0, [], _, [], Nat.zero_le _, rfl, hW, World.ownsRow_nil _ _ _ _, by simp, ho, fun g hg => by simp [Value.ownBlock] at hg⟩
    case round =>
      clear hW ho
      obtain ⟨i, L, v, bs, hi1, rfl, hW, hrow, hL, ho, hvg⟩ := hrel
      have hL2 : L.length ≤ 60060 := Nat.le_trans hL (by omega)
      by_cases hlt : i < os.length
      · obtain ⟨b, off, rfl, hb, x0, x1, x2⟩ := (h.keep ho).at_ hlt
        generalize os[i] = o at *
        obtain ⟨a, n, x⟩ := o
        simp only at x0 x1 x2
        obtain ⟨A4, c4, hv4⟩ := owns_slice hrow
        subst hv4
        have hlt2 : (i : Int) < (os.length : Int) := by omega
        have hsz := ho.size
        by_cases ha0 : a = 0
        · subst ha0
          have HWb := Lib.hid (hW.alloc (.cells #[iv 0, iv n, iv x] 35))
          have Hrowb := Lib.hid (show Bitrow (wr.alloc (.cells #[iv 0, iv n, iv x] 35)) w.heap.size (.slice A4 L.length c4) L from World.ownsRow.alloc hrow _)
          have Hob := Lib.hid (ho.alloc (.cells #[iv 0, iv n, iv x] 35))
          have Hbx := Lib.hid (Box.new wr 35 #[iv 0, iv n, iv x])
          clear hW hrow ho
          have H1 := Lib.hid (put_any HWb.out (by omega) n x)
          go_wp2_with fail
          refine (H1.out).mono ?_
          rintro e w2 ⟨rfl, hto⟩
          obtain ⟨v2, bs2, hW2, hrow2, ho2, hvg2, hon2⟩ := wr_step HWb.out Hrowb.out Hob.out hvg hto
          have hbx2 := box_step HWb.out Hbx.out hon2
          have hk1 := hbx2.cell 1
          have hk2 := hbx2.cell 2
          simp only [List.getElem?_toArray, List.getElem?_cons_zero, List.getElem?_cons_succ] at hk1 hk2
          have hsz2 := ho2.size
          have H2 := Lib.hid (putRefW_any false hrow2 (by omega) (by omega) n x)
          rw [show refE false n x = putE n x from rfl, show refL false L n x = putL L n x from rfl] at H2
          have Hrow2 := Lib.hid hrow2
          clear hrow2 hto H1 Hrowb Hob HWb Hbx hon2
          go_wp2_with fail
          refine (H2.out).mono ?_
          rintro e w3 ⟨s3, rfl, hto3⟩
          obtain ⟨hW3, ho3⟩ := ref_step hW2 Hrow2.out ho2 hto3
          have hrow3 := hto3.1
          have hEE : (putE n x != putE n x) = false := by simp
          clear hto3 H2 Hrow2 hW2 ho2 hbx2 hk1 hk2
          generalize putE n x = E at *
          have hlen3 : (putL L n x).length ≤ i * 1001 + 1001 := Nat.le_trans (putL_len L n x) (by omega)
          generalize putL L n x = L3 at *
          have hLc : ((L3.length : Int) != (L3.length : Int)) = false := by simp
          obtain ⟨A6, c6, hv6⟩ := owns_slice hrow3
          subst hv6
          have Hrow3 := Lib.hid hrow3
          clear hrow3
          go_wp2_with fail
          refine (len_any hW3).mono ?_
          rintro e w4 ⟨rfl, rfl⟩
          go_wp2_with fail
          refine (bytes_any hW3).mono ?_
          rintro e w4 ⟨v4, rfl, hown4, ho4⟩
          have hW4 := hW3.nix ho4
          have hrow4 : Bitrow w4 w.heap.size _ L3 := owns_only Hrow3.out ho4 (fun _ _ e => e)
          have Hbr := Lib.hid (bytesRef_any hrow4 hW3.packs (by omega))
          have hbsl := hW3.len
          obtain ⟨A7, c7, hv7⟩ := owns_slice hown4
          subst hv7
          have Hown4 := Lib.hid hown4
          have Hrow4 := Lib.hid hrow4
          clear hown4 hrow4 Hrow3
          go_wp2_with fail
          refine (Hbr.out).mono ?_
          rintro e w5 ⟨v5, rfl, hown5, ho5⟩
          have hW5 := hW4.nix ho5
          have hrow5 : Bitrow w5 w.heap.size _ L3 := owns_only Hrow4.out ho5 (fun _ _ e => e)
          have Hsm := Lib.hid (same_yes (Src.of_owns (owns_only Hown4.out ho5 (fun _ _ e => e)) (by omega)) (Src.of_owns hown5 (by omega)))
          have o5 := (ho3.trans ho4).trans ho5
          obtain ⟨A8, c8, hv8⟩ := owns_slice hown5
          subst hv8
          clear hown5 Hown4 Hrow4 Hbr hW4 ho4 ho5 hW3 ho3
          go_wp2_with fail
          refine (Hsm.out).mono ?_
          rintro e w6 ⟨rfl, m6, rfl⟩
          have HR := Lib.hid hrow5
          clear hrow5
          go_wp2
          go_roundw
          case rel => exact ⟨i + 1, L3, _, _, by omega, by go_num, hW5.drewN m6, owns_drewN HR.out m6, by omega, o5.drewN m6, hvg2⟩
          case measure => simp [intOf]; omega
        · have hb0 : (a == 0) = false := by simpa using ha0
          by_cases ha1 : a = 1
          · subst ha1
            have HWb := Lib.hid (hW.alloc (.cells #[iv 1, iv n, iv x] 35))
            have Hrowb := Lib.hid (show Bitrow (wr.alloc (.cells #[iv 1, iv n, iv x] 35)) w.heap.size (.slice A4 L.length c4) L from World.ownsRow.alloc hrow _)
            have Hob := Lib.hid (ho.alloc (.cells #[iv 1, iv n, iv x] 35))
            have Hbx := Lib.hid (Box.new wr 35 #[iv 1, iv n, iv x])
            clear hW hrow ho
            have H1 := Lib.hid (signedW_any HWb.out (by omega) n x)
            go_wp2_with fail
            refine (H1.out).mono ?_
            rintro e w2 ⟨rfl, hto⟩
            obtain ⟨v2, bs2, hW2, hrow2, ho2, hvg2, hon2⟩ := wr_step HWb.out Hrowb.out Hob.out hvg hto
            have hbx2 := box_step HWb.out Hbx.out hon2
            have hk1 := hbx2.cell 1
            have hk2 := hbx2.cell 2
            simp only [List.getElem?_toArray, List.getElem?_cons_zero, List.getElem?_cons_succ] at hk1 hk2
            have hsz2 := ho2.size
            have H2 := Lib.hid (putRefW_any true hrow2 (by omega) (by omega) n x)
            rw [show refE true n x = sgnE n x from rfl, show refL true L n x = sgnL L n x from rfl] at H2
            have Hrow2 := Lib.hid hrow2
            clear hrow2 hto H1 Hrowb Hob HWb Hbx hon2
            go_wp2_with fail
            refine (H2.out).mono ?_
            rintro e w3 ⟨s3, rfl, hto3⟩
            obtain ⟨hW3, ho3⟩ := ref_step hW2 Hrow2.out ho2 hto3
            have hrow3 := hto3.1
            have hEE : (sgnE n x != sgnE n x) = false := by simp
            clear hto3 H2 Hrow2 hW2 ho2 hbx2 hk1 hk2
            generalize sgnE n x = E at *
            have hlen3 : (sgnL L n x).length ≤ i * 1001 + 1001 := Nat.le_trans (sgnL_len L n x) (by omega)
            generalize sgnL L n x = L3 at *
            have hLc : ((L3.length : Int) != (L3.length : Int)) = false := by simp
            obtain ⟨A6, c6, hv6⟩ := owns_slice hrow3
            subst hv6
            have Hrow3 := Lib.hid hrow3
            clear hrow3
            go_wp2_with fail
            refine (len_any hW3).mono ?_
            rintro e w4 ⟨rfl, rfl⟩
            go_wp2_with fail
            refine (bytes_any hW3).mono ?_
            rintro e w4 ⟨v4, rfl, hown4, ho4⟩
            have hW4 := hW3.nix ho4
            have hrow4 : Bitrow w4 w.heap.size _ L3 := owns_only Hrow3.out ho4 (fun _ _ e => e)
            have Hbr := Lib.hid (bytesRef_any hrow4 hW3.packs (by omega))
            have hbsl := hW3.len
            obtain ⟨A7, c7, hv7⟩ := owns_slice hown4
            subst hv7
            have Hown4 := Lib.hid hown4
            have Hrow4 := Lib.hid hrow4
            clear hown4 hrow4 Hrow3
            go_wp2_with fail
            refine (Hbr.out).mono ?_
            rintro e w5 ⟨v5, rfl, hown5, ho5⟩
            have hW5 := hW4.nix ho5
            have hrow5 : Bitrow w5 w.heap.size _ L3 := owns_only Hrow4.out ho5 (fun _ _ e => e)
            have Hsm := Lib.hid (same_yes (Src.of_owns (owns_only Hown4.out ho5 (fun _ _ e => e)) (by omega)) (Src.of_owns hown5 (by omega)))
            have o5 := (ho3.trans ho4).trans ho5
            obtain ⟨A8, c8, hv8⟩ := owns_slice hown5
            subst hv8
            clear hown5 Hown4 Hrow4 Hbr hW4 ho4 ho5 hW3 ho3
            go_wp2_with fail
            refine (Hsm.out).mono ?_
            rintro e w6 ⟨rfl, m6, rfl⟩
            have HR := Lib.hid hrow5
            clear hrow5
            go_wp2
            go_roundw
            case rel => exact ⟨i + 1, L3, _, _, by omega, by go_num, hW5.drewN m6, owns_drewN HR.out m6, by omega, o5.drewN m6, hvg2⟩
            case measure => simp [intOf]; omega
          · have hb1 : (a == 1) = false := by simpa using ha1
            by_cases ha2 : a = 2
            · subst ha2
              by_cases hx1 : 1000 < x
              · have hg1 : decide (1000 < x) = true := by simpa using hx1
                by_cases hx2 : x ≤ 65536
                · have hg2 : decide (x ≤ 65536) = true := by simpa using hx2
                  have HWb := Lib.hid (hW.alloc (.cells #[iv 2, iv n, iv x] 35))
                  have Hrowb := Lib.hid (show Bitrow (wr.alloc (.cells #[iv 2, iv n, iv x] 35)) w.heap.size (.slice A4 L.length c4) L from World.ownsRow.alloc hrow _)
                  have Hob := Lib.hid (ho.alloc (.cells #[iv 2, iv n, iv x] 35))
                  have Hbx := Lib.hid (Box.new wr 35 #[iv 2, iv n, iv x])
                  clear hW hrow ho
                  go_wp2
                  go_roundw
                  case rel => exact ⟨i + 1, L, v, bs, by omega, by go_num, HWb.out, Hrowb.out, by omega, Hob.out, hvg⟩
                  case measure => simp [intOf]; omega
                · have hg2 : decide (x ≤ 65536) = false := by simpa using hx2
                  have hxx : x ≤ 1000 ∨ 65536 < x := by omega
                  have HWb := Lib.hid (hW.alloc (.cells #[iv 2, iv n, iv x] 35))
                  have Hrowb := Lib.hid (show Bitrow (wr.alloc (.cells #[iv 2, iv n, iv x] 35)) w.heap.size (.slice A4 L.length c4) L from World.ownsRow.alloc hrow _)
                  have Hob := Lib.hid (ho.alloc (.cells #[iv 2, iv n, iv x] 35))
                  have Hbx := Lib.hid (Box.new wr 35 #[iv 2, iv n, iv x])
                  clear hW hrow ho
                  have H1 := Lib.hid (unaryW_any HWb.out (by omega) x)
                  go_wp2_with fail
                  refine (H1.out).mono ?_
                  rintro e w2 ⟨rfl, hto⟩
                  obtain ⟨v2, bs2, hW2, hrow2, ho2, hvg2, hon2⟩ := wr_step HWb.out Hrowb.out Hob.out hvg hto
                  have hbx2 := box_step HWb.out Hbx.out hon2
                  have hk1 := hbx2.cell 1
                  have hk2 := hbx2.cell 2
                  simp only [List.getElem?_toArray, List.getElem?_cons_zero, List.getElem?_cons_succ] at hk1 hk2
                  have hsz2 := ho2.size
                  have H2 := Lib.hid (unaryRefW_any hrow2 (by omega) (by omega) x hxx)
                  have Hrow2 := Lib.hid hrow2
                  clear hrow2 hto H1 Hrowb Hob HWb Hbx hon2
                  go_wp2_with fail
                  refine (H2.out).mono ?_
                  rintro e w3 ⟨s3, rfl, hto3⟩
                  obtain ⟨hW3, ho3⟩ := ref_step hW2 Hrow2.out ho2 hto3
                  have hrow3 := hto3.1
                  have hEE : (unE x != unE x) = false := by simp
                  clear hto3 H2 Hrow2 hW2 ho2 hbx2 hk1 hk2
                  generalize unE x = E at *
                  have hlen3 : (unL L x).length ≤ i * 1001 + 1001 := unL_len2 L x i hxx hL
                  generalize unL L x = L3 at *
                  have hLc : ((L3.length : Int) != (L3.length : Int)) = false := by simp
                  obtain ⟨A6, c6, hv6⟩ := owns_slice hrow3
                  subst hv6
                  have Hrow3 := Lib.hid hrow3
                  clear hrow3
                  go_wp2_with fail
                  refine (len_any hW3).mono ?_
                  rintro e w4 ⟨rfl, rfl⟩
                  go_wp2_with fail
                  refine (bytes_any hW3).mono ?_
                  rintro e w4 ⟨v4, rfl, hown4, ho4⟩
                  have hW4 := hW3.nix ho4
                  have hrow4 : Bitrow w4 w.heap.size _ L3 := owns_only Hrow3.out ho4 (fun _ _ e => e)
                  have Hbr := Lib.hid (bytesRef_any hrow4 hW3.packs (by omega))
                  have hbsl := hW3.len
                  obtain ⟨A7, c7, hv7⟩ := owns_slice hown4
                  subst hv7
                  have Hown4 := Lib.hid hown4
                  have Hrow4 := Lib.hid hrow4
                  clear hown4 hrow4 Hrow3
                  go_wp2_with fail
                  refine (Hbr.out).mono ?_
                  rintro e w5 ⟨v5, rfl, hown5, ho5⟩
                  have hW5 := hW4.nix ho5
                  have hrow5 : Bitrow w5 w.heap.size _ L3 := owns_only Hrow4.out ho5 (fun _ _ e => e)
                  have Hsm := Lib.hid (same_yes (Src.of_owns (owns_only Hown4.out ho5 (fun _ _ e => e)) (by omega)) (Src.of_owns hown5 (by omega)))
                  have o5 := (ho3.trans ho4).trans ho5
                  obtain ⟨A8, c8, hv8⟩ := owns_slice hown5
                  subst hv8
                  clear hown5 Hown4 Hrow4 Hbr hW4 ho4 ho5 hW3 ho3
                  go_wp2_with fail
                  refine (Hsm.out).mono ?_
                  rintro e w6 ⟨rfl, m6, rfl⟩
                  have HR := Lib.hid hrow5
                  clear hrow5
                  go_wp2
                  go_roundw
                  case rel => exact ⟨i + 1, L3, _, _, by omega, by go_num, hW5.drewN m6, owns_drewN HR.out m6, by omega, o5.drewN m6, hvg2⟩
                  case measure => simp [intOf]; omega
              · have hg1 : decide (1000 < x) = false := by simpa using hx1
                have hxx : x ≤ 1000 ∨ 65536 < x := by omega
                have HWb := Lib.hid (hW.alloc (.cells #[iv 2, iv n, iv x] 35))
                have Hrowb := Lib.hid (show Bitrow (wr.alloc (.cells #[iv 2, iv n, iv x] 35)) w.heap.size (.slice A4 L.length c4) L from World.ownsRow.alloc hrow _)
                have Hob := Lib.hid (ho.alloc (.cells #[iv 2, iv n, iv x] 35))
                have Hbx := Lib.hid (Box.new wr 35 #[iv 2, iv n, iv x])
                clear hW hrow ho
                have H1 := Lib.hid (unaryW_any HWb.out (by omega) x)
                go_wp2_with fail
                refine (H1.out).mono ?_
                rintro e w2 ⟨rfl, hto⟩
                obtain ⟨v2, bs2, hW2, hrow2, ho2, hvg2, hon2⟩ := wr_step HWb.out Hrowb.out Hob.out hvg hto
                have hbx2 := box_step HWb.out Hbx.out hon2
                have hk1 := hbx2.cell 1
                have hk2 := hbx2.cell 2
                simp only [List.getElem?_toArray, List.getElem?_cons_zero, List.getElem?_cons_succ] at hk1 hk2
                have hsz2 := ho2.size
                have H2 := Lib.hid (unaryRefW_any hrow2 (by omega) (by omega) x hxx)
                have Hrow2 := Lib.hid hrow2
                clear hrow2 hto H1 Hrowb Hob HWb Hbx hon2
                go_wp2_with fail
                refine (H2.out).mono ?_
                rintro e w3 ⟨s3, rfl, hto3⟩
                obtain ⟨hW3, ho3⟩ := ref_step hW2 Hrow2.out ho2 hto3
                have hrow3 := hto3.1
                have hEE : (unE x != unE x) = false := by simp
                clear hto3 H2 Hrow2 hW2 ho2 hbx2 hk1 hk2
                generalize unE x = E at *
                have hlen3 : (unL L x).length ≤ i * 1001 + 1001 := unL_len2 L x i hxx hL
                generalize unL L x = L3 at *
                have hLc : ((L3.length : Int) != (L3.length : Int)) = false := by simp
                obtain ⟨A6, c6, hv6⟩ := owns_slice hrow3
                subst hv6
                have Hrow3 := Lib.hid hrow3
                clear hrow3
                go_wp2_with fail
                refine (len_any hW3).mono ?_
                rintro e w4 ⟨rfl, rfl⟩
                go_wp2_with fail
                refine (bytes_any hW3).mono ?_
                rintro e w4 ⟨v4, rfl, hown4, ho4⟩
                have hW4 := hW3.nix ho4
                have hrow4 : Bitrow w4 w.heap.size _ L3 := owns_only Hrow3.out ho4 (fun _ _ e => e)
                have Hbr := Lib.hid (bytesRef_any hrow4 hW3.packs (by omega))
                have hbsl := hW3.len
                obtain ⟨A7, c7, hv7⟩ := owns_slice hown4
                subst hv7
                have Hown4 := Lib.hid hown4
                have Hrow4 := Lib.hid hrow4
                clear hown4 hrow4 Hrow3
                go_wp2_with fail
                refine (Hbr.out).mono ?_
                rintro e w5 ⟨v5, rfl, hown5, ho5⟩
                have hW5 := hW4.nix ho5
                have hrow5 : Bitrow w5 w.heap.size _ L3 := owns_only Hrow4.out ho5 (fun _ _ e => e)
                have Hsm := Lib.hid (same_yes (Src.of_owns (owns_only Hown4.out ho5 (fun _ _ e => e)) (by omega)) (Src.of_owns hown5 (by omega)))
                have o5 := (ho3.trans ho4).trans ho5
                obtain ⟨A8, c8, hv8⟩ := owns_slice hown5
                subst hv8
                clear hown5 Hown4 Hrow4 Hbr hW4 ho4 ho5 hW3 ho3
                go_wp2_with fail
                refine (Hsm.out).mono ?_
                rintro e w6 ⟨rfl, m6, rfl⟩
                have HR := Lib.hid hrow5
                clear hrow5
                go_wp2
                go_roundw
                case rel => exact ⟨i + 1, L3, _, _, by omega, by go_num, hW5.drewN m6, owns_drewN HR.out m6, by omega, o5.drewN m6, hvg2⟩
                case measure => simp [intOf]; omega
            · have hb2 : (a == 2) = false := by simpa using ha2
              by_cases ha3 : a = 3
              · subst ha3
                have HWb := Lib.hid (hW.alloc (.cells #[iv 3, iv n, iv x] 35))
                have Hrowb := Lib.hid (show Bitrow (wr.alloc (.cells #[iv 3, iv n, iv x] 35)) w.heap.size (.slice A4 L.length c4) L from World.ownsRow.alloc hrow _)
                have Hob := Lib.hid (ho.alloc (.cells #[iv 3, iv n, iv x] 35))
                have Hbx := Lib.hid (Box.new wr 35 #[iv 3, iv n, iv x])
                clear hW hrow ho
                have hpad := padN_le L.length
                have hpm : (L.length + padN L.length) % 8 = 0 := by unfold padN; omega
                have hpm2 : ∀ j, j < padN L.length → (L.length + j) % 8 ≠ 0 := by intro j hj; unfold padN at hj; omega
                have Hpm := Lib.hid (And.intro hpm hpm2)
                clear hpm hpm2
                have Hst := Lib.hid (RowTo.same Hrowb.out)
                have hszb := Hob.out.size
                clear Hbx
                go_wp2
                generalize wr.alloc (.cells #[iv 3, iv n, iv x] 35) = wA at *
                go_loopw [4, 9] (fun s4 s9 wi => AlignRel wA w.heap.size (.slice A4 L.length c4) L s4 s9 wi) (fun _ s9 _ => 8 - (intOf s9).toNat)
                case atStart => exact ⟨0, Nat.zero_le _, rfl, by simpa using Hst.out⟩
                case round =>
                  obtain ⟨j, hj, rfl, hrj⟩ := hrel
                  obtain ⟨A5, c5, hv5⟩ := owns_slice hrj.1
                  subst hv5
                  have Hrj := Lib.hid hrj
                  have hszj := hrj.2.1.size
                  clear hrj
                  by_cases hjp : j < padN L.length
                  · have hmod : (((L.length + j : Nat) : Int) % 8 != 0) = true := by have := Hpm.out.2 j hjp; rw [bne_iff_ne]; omega
                    have hmod2 : (((L.length : Int) + (j : Int)) % 8 != 0) = true := by have := Hpm.out.2 j hjp; rw [bne_iff_ne]; omega
                    generalize hTe : L ++ List.replicate j 0 = T at *
                    have hTl : T.length = L.length + j := by rw [← hTe]; simp
                    have hmod3 : ((T.length : Int) % 8 != 0) = true := by have := Hpm.out.2 j hjp; rw [bne_iff_ne]; omega
                    have hTl2 : T.length ≤ 60100 := by omega
                    have HTe := Lib.hid hTe
                    clear hTe hTl
                    go_wp2_with (at_builtin; refine wpList_append_lies _ rfl (.tmp 122) (.tmp 123) 28 rfl w.heap.size 3 i0 (.int .i64 0) 1 8 Try.underlying28 hi hz0 hz1 hz2 rfl (by decide) (.slice A5 T.length c5) T.length (bv T) rfl ?hownA ⟨wr.heap.size, 0, none⟩ 1 1 [iv 0] rfl ?hlA ?hnewsA ?h1A (by decide) ?h63A ?hbyA ?hbaseA (wr.heap.size + 1) ?hHA ?restA)
                    case hownA => exact World.ownsRow.alloc Hrj.out.1 _
                    case hlA => rfl
                    case hnewsA =>
                      intro j u hu
                      rw [Addr.add_lit]
                      match j, hu with
                      | 0, hu => simp at hu; subst hu; simp
                    case h1A => intro u hu; simp at hu; subst hu; rfl
                    case h63A => unfold maxLen; omega
                    case hbyA => omega
                    case hbaseA => simp; omega
                    case hHA => simp
                    case restA =>
                      intro g3 cap3 w3 hown3 hgr hat hlt3
                      have Hm := Lib.hid (RowTo.more (m := [0]) Hrj.out hown3 hgr hat)
                      clear hown3 hgr hat
                      go_wp2
                      go_roundw
                      case rel =>
                        refine ⟨j + 1, by omega, by go_num, ?_⟩
                        have eL : L ++ List.replicate (j + 1) 0 = T ++ [0] := by rw [← HTe.out, List.append_assoc, show [0] = List.replicate 1 0 from rfl, List.replicate_append_replicate]
                        rw [eL]
                        exact Hm.out
                      case measure => simp [intOf]; omega
                  · obtain rfl : j = padN L.length := by omega
                    obtain ⟨hW1, ho1⟩ := ref_step HWb.out Hrowb.out Hob.out Hrj.out
                    have hrow1 := Hrj.out.1
                    have H1 := Lib.hid (alignW_any hW1 (by omega))
                    have hmod : (((L.length + padN L.length : Nat) : Int) % 8 != 0) = false := by have := Hpm.out.1; rw [bne_eq_false_iff_eq]; omega
                    have hmod2 : (((L.length : Int) + (padN L.length : Int)) % 8 != 0) = false := by have := Hpm.out.1; rw [bne_eq_false_iff_eq]; omega
                    have hpp : ((padN L.length : Int) != (padN L.length : Int)) = false := by simp
                    have hnp : (L ++ List.replicate (padN L.length) 0).length = L.length + padN L.length := by simp
                    have Hnp := Lib.hid hnp
                    clear hnp
                    generalize hLN : L ++ List.replicate (padN L.length) 0 = LN at *
                    have hmod3 : ((LN.length : Int) % 8 != 0) = false := by have := Hpm.out.1; have := Hnp.out; rw [bne_eq_false_iff_eq]; omega
                    have HLN := Lib.hid hLN
                    have Hrow1 := Lib.hid hrow1
                    clear hLN hrow1 Hrj
                    go_wp2_with fail
                    refine (H1.out).mono ?_
                    rintro e w2 ⟨rfl, hto⟩
                    obtain ⟨v2, bs2, hW3, hrow3, ho3, hvg2, hon2⟩ := wr_step hW1 Hrow1.out ho1 hvg hto
                    clear hto hon2 H1 Hrow1 hW1 ho1
                    have hlen3 : (LN).length ≤ i * 1001 + 1001 := by have := Hnp.out; omega
                    generalize LN = L3 at *
                    have hLc : ((L3.length : Int) != (L3.length : Int)) = false := by simp
                    have Hrow3 := Lib.hid hrow3
                    clear hrow3
                    go_wp2_with fail
                    refine (len_any hW3).mono ?_
                    rintro e w4 ⟨rfl, rfl⟩
                    go_wp2_with fail
                    refine (bytes_any hW3).mono ?_
                    rintro e w4 ⟨v4, rfl, hown4, ho4⟩
                    have hW4 := hW3.nix ho4
                    have hrow4 : Bitrow w4 w.heap.size _ L3 := owns_only Hrow3.out ho4 (fun _ _ e => e)
                    have Hbr := Lib.hid (bytesRef_any hrow4 hW3.packs (by omega))
                    have hbsl := hW3.len
                    obtain ⟨A7, c7, hv7⟩ := owns_slice hown4
                    subst hv7
                    have Hown4 := Lib.hid hown4
                    have Hrow4 := Lib.hid hrow4
                    clear hown4 hrow4 Hrow3
                    go_wp2_with fail
                    refine (Hbr.out).mono ?_
                    rintro e w5 ⟨v5, rfl, hown5, ho5⟩
                    have hW5 := hW4.nix ho5
                    have hrow5 : Bitrow w5 w.heap.size _ L3 := owns_only Hrow4.out ho5 (fun _ _ e => e)
                    have Hsm := Lib.hid (same_yes (Src.of_owns (owns_only Hown4.out ho5 (fun _ _ e => e)) (by omega)) (Src.of_owns hown5 (by omega)))
                    have o5 := (ho3.trans ho4).trans ho5
                    obtain ⟨A8, c8, hv8⟩ := owns_slice hown5
                    subst hv8
                    clear hown5 Hown4 Hrow4 Hbr hW4 ho4 ho5 hW3 ho3
                    go_wp2_with fail
                    refine (Hsm.out).mono ?_
                    rintro e w6 ⟨rfl, m6, rfl⟩
                    have HR := Lib.hid hrow5
                    clear hrow5
                    go_wp2
                    go_roundw
                    case rel => exact ⟨i + 1, L3, _, _, by omega, by go_num, hW5.drewN m6, owns_drewN HR.out m6, by omega, o5.drewN m6, hvg2⟩
                    case measure => simp [intOf]; omega
              · have hb3 : (a == 3) = false := by simpa using ha3
                obtain ⟨y1, hy1, hy1l⟩ : ∃ y : Nat, n % 256 = (y : Int) ∧ y < 256 := ⟨(n % 256).toNat, by omega, by omega⟩
                obtain ⟨y2, hy2, hy2l⟩ : ∃ y : Nat, x % 256 = (y : Int) ∧ y < 256 := ⟨(x % 256).toNat, by omega, by omega⟩
                have hWl := hW.box.lt
                have hFl : ∀ k, WF w.heap.size v k → k < wr.heap.size := by
                  rintro k (e | e)
                  · omega
                  · exact owns_lt hW.own e
                have hLi := lists_two wr (.cells #[iv a, iv n, iv x] 35) y1 y2 (WF w.heap.size v) hFl hy1l hy2l
                have hW4 := (((hW.alloc (.cells #[iv a, iv n, iv x] 35)).alloc (.cells #[.int .u8 (y1 : Int)] 5)).alloc (.cells #[.int .u8 (y2 : Int)] 5)).alloc (.cells #[.slice (some ⟨wr.heap.size + 1, 0, none⟩) 1 1, .slice (some ⟨wr.heap.size + 1 + 1, 0, none⟩) 1 1] 22)
                have ho4 := (((ho.alloc (.cells #[iv a, iv n, iv x] 35)).alloc (.cells #[.int .u8 (y1 : Int)] 5)).alloc (.cells #[.int .u8 (y2 : Int)] 5)).alloc (.cells #[.slice (some ⟨wr.heap.size + 1, 0, none⟩) 1 1, .slice (some ⟨wr.heap.size + 1 + 1, 0, none⟩) 1 1] 22)
                have hrow4 := World.ownsRow.alloc (World.ownsRow.alloc (World.ownsRow.alloc (World.ownsRow.alloc hrow (.cells #[iv a, iv n, iv x] 35)) (.cells #[.int .u8 (y1 : Int)] 5)) (.cells #[.int .u8 (y2 : Int)] 5)) (.cells #[.slice (some ⟨wr.heap.size + 1, 0, none⟩) 1 1, .slice (some ⟨wr.heap.size + 1 + 1, 0, none⟩) 1 1] 22)
                have hbx4 := (((Box.new wr 35 #[iv a, iv n, iv x]).alloc (.cells #[.int .u8 (y1 : Int)] 5)).alloc (.cells #[.int .u8 (y2 : Int)] 5)).alloc (.cells #[.slice (some ⟨wr.heap.size + 1, 0, none⟩) 1 1, .slice (some ⟨wr.heap.size + 1 + 1, 0, none⟩) 1 1] 22)
                have H1 := Lib.hid (append_any hW4 hLi (by simp) (by intro k hk; simp at hk; have : k = 0 ∨ k = 1 ∨ k = 2 := by omega
                                                                     rcases this with rfl | rfl | rfl <;> simp [bitsOf, bitsN] <;> omega))
                have HW4 := Lib.hid hW4
                have Ho4 := Lib.hid ho4
                have Hrow4 := Lib.hid hrow4
                have Hbx4 := Lib.hid hbx4
                have Hyy := Lib.hid (And.intro hy1 hy2)
                clear hW hrow ho hW4 ho4 hrow4 hbx4 hLi
                go_wp2_with fail
                refine (H1.out).mono ?_
                rintro e w2 ⟨rfl, hto⟩
                obtain ⟨v2, bs2, hW2, hrow2, ho2, hvg2, hon2⟩ := wr_step HW4.out Hrow4.out Ho4.out hvg hto
                have hbx2 := box_step HW4.out Hbx4.out hon2
                have hk1 := hbx2.cell 1
                have hk2 := hbx2.cell 2
                simp only [List.getElem?_toArray, List.getElem?_cons_zero, List.getElem?_cons_succ] at hk1 hk2
                have Hrow2 := Lib.hid hrow2
                have hsz2 := ho2.size
                clear hrow2 hto H1 hon2 hbx2 Hbx4 HW4 Ho4 Hrow4
                have Hb := Lib.hid (bitsRef_any (src_lit2 w2 y1 y2) (by simp) (by intro z hz; simp at hz; omega))
                go_wp2_with fail
                refine (Hb.out).mono ?_
                rintro e w3 ⟨rv, rfl, hown3, ho3⟩
                have o3 : Only Nix w w3 := (ho2.alloc _).trans ho3
                have hW3' := (hW2.alloc (.cells #[.int .u8 (y1 : Int), .int .u8 (y2 : Int)] 5)).nix ho3
                have hrow3' : Bitrow w3 w.heap.size (.slice A4 L.length c4) L := owns_only (World.ownsRow.alloc Hrow2.out (.cells #[.int .u8 (y1 : Int), .int .u8 (y2 : Int)] 5)) ho3 (fun _ _ e => e)
                have hb16 : (bitsOf [y1, y2]).length = 16 := by rw [bitsOf_len]; rfl
                obtain ⟨g5, c5, hv5⟩ : ∃ g5 c5, rv = .slice (some ⟨g5, 0, none⟩) 16 c5 := by
                  rcases hown3.2 with ⟨_, h9⟩ | ⟨g5, cap, cur, h9, _⟩
                  · simp at h9
                  · exact ⟨g5, cap, h9⟩
                subst hv5
                have HRT := Lib.hid (RowTo.same hrow3')
                have Hown3 := Lib.hid hown3
                have Hb16 := Lib.hid hb16
                have HW3' := Lib.hid hW3'
                have Ho3 := Lib.hid o3
                have hsz3 := o3.size
                clear hown3 hrow3' hb16 hW3' o3 ho3 hW2 ho2 Hrow2 Hb hk1 hk2
                go_wp2_with (at_builtin; refine wpList_append_lies _ rfl (.tmp 59) (.tmp 67) 28 rfl w.heap.size 3 i0 (.int .i64 0) 1 8 Try.underlying28 hi hz0 hz1 hz2 rfl (by decide) (.slice A4 L.length c4) L.length (bv L) rfl ?hownD ⟨g5, 0, none⟩ 16 c5 (bv (bitsOf [y1, y2])) rfl ?hlD ?hnewsD ?h1D (by decide) ?h63D ?hbyD ?hbaseD w3.heap.size ?hHD ?restD)
                case hownD => exact HRT.out.1
                case hlD => rw [bv_len, Hb16.out]
                case hnewsD => exact World.ownsRow.cells Hown3.out (g := g5) rfl
                case h1D => intro u hu; obtain ⟨b, _, rfl⟩ := List.mem_map.1 hu; rfl
                case h63D => unfold maxLen; omega
                case hbyD => omega
                case hbaseD => omega
                case hHD => rfl
                case restD =>
                  intro g6 cap6 w6 hown6 hgr hat hlt6
                  have hj := RowTo.join (m := bitsOf [y1, y2]) HRT.out (by rw [Hb16.out]; exact hown6) hgr hat
                  rw [Hb16.out] at hj
                  obtain ⟨hW3, ho3⟩ := ref_step HW3'.out HRT.out.1 Ho3.out hj
                  have hrow3 := hj.1
                  have hflat : [[y1], [y2]].flatten = [y1, y2] := rfl
                  rw [hflat] at hW3
                  have hLn : (L ++ bitsOf [y1, y2]).length = L.length + 16 := by rw [List.length_append, Hb16.out]
                  have HLn := Lib.hid hLn
                  clear hLn hflat hj hown6 hgr hat HRT Hown3 HW3' Ho3 Hb16
                  have hlen3 : (L ++ bitsOf [y1, y2]).length ≤ i * 1001 + 1001 := by have := HLn.out; omega
                  have hlE : L.length + 16 = (L ++ bitsOf [y1, y2]).length := HLn.out.symm
                  rw [hlE] at hrow3 ⊢
                  clear hlE
                  generalize L ++ bitsOf [y1, y2] = L3 at *
                  have hLc : ((L3.length : Int) != (L3.length : Int)) = false := by simp
                  have Hrow3 := Lib.hid hrow3
                  clear hrow3
                  go_wp2_with fail
                  refine (len_any hW3).mono ?_
                  rintro e w4 ⟨rfl, rfl⟩
                  go_wp2_with fail
                  refine (bytes_any hW3).mono ?_
                  rintro e w4 ⟨v4, rfl, hown4, ho4⟩
                  have hW4 := hW3.nix ho4
                  have hrow4 : Bitrow w4 w.heap.size _ L3 := owns_only Hrow3.out ho4 (fun _ _ e => e)
                  have Hbr := Lib.hid (bytesRef_any hrow4 hW3.packs (by omega))
                  have hbsl := hW3.len
                  obtain ⟨A7, c7, hv7⟩ := owns_slice hown4
                  subst hv7
                  have Hown4 := Lib.hid hown4
                  have Hrow4 := Lib.hid hrow4
                  clear hown4 hrow4 Hrow3
                  go_wp2_with fail
                  refine (Hbr.out).mono ?_
                  rintro e w5 ⟨v5, rfl, hown5, ho5⟩
                  have hW5 := hW4.nix ho5
                  have hrow5 : Bitrow w5 w.heap.size _ L3 := owns_only Hrow4.out ho5 (fun _ _ e => e)
                  have Hsm := Lib.hid (same_yes (Src.of_owns (owns_only Hown4.out ho5 (fun _ _ e => e)) (by omega)) (Src.of_owns hown5 (by omega)))
                  have o5 := (ho3.trans ho4).trans ho5
                  obtain ⟨A8, c8, hv8⟩ := owns_slice hown5
                  subst hv8
                  clear hown5 Hown4 Hrow4 Hbr hW4 ho4 ho5 hW3 ho3
                  go_wp2_with fail
                  refine (Hsm.out).mono ?_
                  rintro e w6 ⟨rfl, m6, rfl⟩
                  have HR := Lib.hid hrow5
                  clear hrow5
                  go_wp2
                  go_roundw
                  case rel => exact ⟨i + 1, L3, _, _, by omega, by go_num, hW5.drewN m6, owns_drewN HR.out m6, by omega, o5.drewN m6, hvg2⟩
                  case measure => simp [intOf]; omega
      · obtain rfl : i = os.length := by omega
        have hlt2 : decide ((os.length : Int) < (os.length : Int)) = false := by simp
        obtain ⟨A4, c4, hv4⟩ := owns_slice hrow
        subst hv4
        go_wp2_with fail
        refine (awake_any _).mono ?_
        rintro e w5 ⟨rfl, ho5⟩
        go_wp2
        go_ret
        exact ⟨rfl, ho.trans ho5⟩
end Go.Proofs.Ytpcddacfhmkkbaa
