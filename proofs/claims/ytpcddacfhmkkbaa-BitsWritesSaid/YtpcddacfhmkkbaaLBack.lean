/-
  Proved: for every list of calls l, BitsBack(l) returns true and leaves its argument as it was. No condition.
-/
import Derived.Test.YtpcddacfhmkkbaaOps
namespace Go.Proofs.Ytpcddacfhmkkbaa
open Go.ChangeShapes Go.WideShapes Go.ChangeAt Go.RowKit Go.Joins

/-- at the head of the writing loop -/
def BackRel (w : World) (os : List Op3) (s4 s5 : Value) (wr : World) : Prop :=
  ∃ (i : Nat) (L : List Nat) (ws : List Op3) (v : Value) (bs : List Nat), i ≤ os.length ∧ s5 = iv i ∧ Wr wr w.heap.size v bs L ∧ wr.ownsRow w.heap.size 35 3 s4 ws.length (flat ws) ∧ Good L ws ∧
    L.length ≤ i * 1001 ∧ ws.length ≤ i ∧ Only Nix w wr ∧ ∀ g, v.ownBlock = some g → w.heap.size ≤ g

theorem owns_owns {w : World} {base base' : Nat} {e e' : TypeId} {size size' n n' : Nat} {v v' : Value} {xs xs' : List Value} (h : w.ownsRow base e size v n xs) (h' : w.ownsRow base' e' size' v' n' xs') (hne : e ≠ e') : ∀ g, v.ownBlock = some g → v'.ownBlock ≠ some g := by
  intro g hg hg'
  rcases h.2 with ⟨rfl, _⟩ | ⟨a, cap, cur, rfl, _, ha, _⟩
  · simp [Value.ownBlock] at hg
  · rcases h'.2 with ⟨rfl, _⟩ | ⟨a', cap', cur', rfl, _, ha', _⟩
    · simp [Value.ownBlock] at hg'
    · simp [Value.ownBlock] at hg hg'
      subst hg hg'
      rw [ha] at ha'
      injection ha' with h1
      injection h1 with _ h2
      exact hne h2

/-- behind a call of the Writer, in a world where the call's box has just been laid -/
theorem after_op {w wr w2 : World} {v s4 : Value} {bs L L' : List Nat} {ws : List Op3} {cs : Array Value} (hW : Wr wr w.heap.size v bs L) (hown : wr.ownsRow w.heap.size 35 3 s4 ws.length (flat ws)) (ho : Only Nix w wr)
    (hvg : ∀ g, v.ownBlock = some g → w.heap.size ≤ g) (h : WrTo (wr.alloc (.cells cs 35)) w.heap.size v L' w2) :
    ∃ v' bs', Wr w2 w.heap.size v' bs' L' ∧ w2.ownsRow w.heap.size 35 3 s4 ws.length (flat ws) ∧ Box w2 wr.heap.size 35 cs ∧ Only Nix w w2 ∧ (∀ g, v'.ownBlock = some g → w.heap.size ≤ g) ∧ wr.heap.size < w2.heap.size := by
  obtain ⟨v', bs', h1, h2, h3⟩ := h
  have hsz := ho.size
  have hB := hW.box.lt
  refine ⟨v', bs', h1, ?_, ?_, ?_, ?_, ?_⟩
  · refine owns_only (hown.alloc _) h2 (fun g hg => ?_)
    rintro (e | e)
    · exact owns_box hown hW.box (by decide) (by rw [hg, e])
    · exact owns_owns hown hW.own (by decide) g hg e
  · refine (Box.new wr _ cs).only h2 ?_
    rintro (e | e)
    · omega
    · have := owns_lt hW.own e; omega
  · refine (ho.alloc _).then h2 ?_
    rintro k (e | e)
    · exact .inr (by omega)
    · exact .inr (hvg k e)
  · intro g hg
    rcases h3 g hg with e | e
    · exact hvg g e
    · simp at e; omega
  · have := h2.size
    simp at this
    omega
/-- behind the append of a call to those that were written -/
theorem after_append {w w2 w3 : World} {v s4 : Value} {bs L : List Nat} {ws : List Op3} {o : Obj} (hW : Wr w2 w.heap.size v bs L) (hown : w2.ownsRow w.heap.size 35 3 s4 ws.length (flat ws)) (ho : Only Nix w w2)
    (hg : (w2.alloc o).grownBy w3 s4.ownBlock) : Wr w3 w.heap.size v bs L ∧ Only Nix w w3 := by
  have h1 : Only (fun k => s4.ownBlock = some k) (w2.alloc o) w3 := (Only.refl _ _).grown hg (fun k e => .inl e)
  refine ⟨(hW.alloc o).keep h1 (owns_box hown hW.box (by decide)) (fun g hg => owns_owns hW.own hown (by decide) g hg), ?_⟩
  exact (ho.alloc o).then h1 (fun k e => .inr (hown.lt k e).1)

theorem putL_len (L : List Nat) (n x : Int) : (putL L n x).length ≤ L.length + 48 := by
  unfold putL
  split
  · rename_i hE
    have hn : ¬ (n < 0 ∨ 48 < n) := fun hh => by unfold putE at hE; rw [if_pos hh] at hE; cases hE
    rw [List.length_append, bitsN_len]; omega
  · omega
theorem sgnL_len (L : List Nat) (n x : Int) : (sgnL L n x).length ≤ L.length + 48 := by
  unfold sgnL
  split
  · rename_i hE
    have hn : ¬ (n < 0 ∨ 48 < n) := fun hh => by unfold sgnE at hE; rw [if_pos hh] at hE; cases hE
    rw [List.length_append, bitsN_len]; omega
  · omega
theorem unL_len (L : List Nat) (x : Int) (hx : x ≤ 1000) : (unL L x).length ≤ L.length + 1001 := by
  unfold unL
  split
  · simp; omega
  · omega

/-- at the head of the reading loop -/
def ReadRel (w : World) (ws : List Op3) (pos : Nat → Nat) (r : Nat) (rv s4 v : Value) (bs L : List Nat) (s9 : Value) (wr : World) : Prop :=
  ∃ j : Nat, j ≤ ws.length ∧ s9 = iv j ∧ Rd wr r rv bs (pos j) ∧ Wr wr w.heap.size v bs L ∧ wr.ownsRow w.heap.size 35 3 s4 ws.length (flat ws) ∧ Only Nix w wr
theorem after_read {w wr w2 : World} {r a : Nat} {rv v s4 : Value} {bs L : List Nat} {ws : List Op3} {cs : Array Value} (hW : Wr wr w.heap.size v bs L) (hown : wr.ownsRow w.heap.size 35 3 s4 ws.length (flat ws)) (ho : Only Nix w wr)
    (hR : Rd wr r rv bs a) (hr : w.heap.size ≤ r) (h : Only (Just r) (wr.alloc (.cells cs 35)) w2) :
    Wr w2 w.heap.size v bs L ∧ w2.ownsRow w.heap.size 35 3 s4 ws.length (flat ws) ∧ Box w2 wr.heap.size 35 cs ∧ Only Nix w w2 := by
  have hrl := hR.mem
  refine ⟨(hW.alloc _).keep h (hW.box.type_ne hR.box (by decide)) (fun g hg e => owns_box hW.own hR.box (by decide) (by rw [hg]; exact congrArg some e)), owns_only (hown.alloc _) h (fun g hg e => owns_box hown hR.box (by decide) (by rw [hg]; exact congrArg some e)),
    (Box.new wr _ cs).only h (fun e => by have : wr.heap.size = r := e; omega), (ho.alloc _).then h (fun k e => .inr (by have : k = r := e; omega))⟩

set_option maxHeartbeats 4000000 in
set_option maxRecDepth 100000 in
theorem bitsBack_walk (v0 : Value) (os : List Op3) (w : World) (h : OpsIn w v0 os) (hs : os.length ≤ maxLen) (hfit : ∀ o ∈ os, Fits o.1 ∧ Fits o.2.1 ∧ Fits o.2.2) :
    Calls Try.prog 5 #[v0] w fun e w' => e = .returned (.bool true) ∧ Only Nix w w' := by
  obtain ⟨A, c, hv⟩ := h.slice
  subst hv
  unfold maxLen at hs
  obtain ⟨i0, hi, hz0, hz1, hz2⟩ := info_parts Try.info_op
  go_enter Try.func5, Try.ntmps5
  go_wp2_with fail
  refine (newWriter_any w).mono ?_
  rintro e w1 ⟨rfl, hW, ho⟩
  by_cases hlen : 60 < os.length
  · have hd : (60 : Int) < (os.length : Int) := by omega
    go_wp2_with fail
    refine (awake_any _).mono ?_
    rintro e w2 ⟨rfl, ho2⟩
    go_wp2
    go_ret
    exact ⟨rfl, ho.trans ho2⟩
  · have hd : ¬ (60 : Int) < (os.length : Int) := by omega
    have hd2 : decide ((60 : Int) < (os.length : Int)) = false := by simpa using hd
    go_wp2
    go_loopw [4, 5] (fun s4 s5 wr => BackRel w os s4 s5 wr) (fun _ s5 _ => os.length - (intOf s5).toNat)
    case atStart => exact ⟨0, [], [], _, [], Nat.zero_le _, rfl, hW, World.ownsRow_nil _ _ _ _, Good.nil, by simp, by simp, ho, fun g hg => by simp [Value.ownBlock] at hg⟩
    case round =>
      clear hW ho
      obtain ⟨i, L, ws, v, bs, hi1, rfl, hW, hown, hG, hL, hws, ho, hvg⟩ := hrel
      by_cases hlt : i < os.length
      · obtain ⟨b, off, rfl, hb, x0, x1, x2⟩ := (h.keep ho).at_ hlt
        obtain ⟨f0, f1, f2⟩ := hfit _ (List.getElem_mem hlt)
        generalize hoe : os[i] = o at *
        obtain ⟨a, n, x⟩ := o
        simp only at x0 x1 x2 f0 f1 f2
        obtain ⟨A4, c4, hv4⟩ := owns_slice hown
        subst hv4
        have hlt2 : (i : Int) < (os.length : Int) := by omega
        have HG := Lib.hid hG
        have Hown := Lib.hid hown
        have HW := Lib.hid hW
        have Ho := Lib.hid ho
        clear hoe hG hown hW ho
        have hsz := Ho.out.size
        by_cases ha0 : a = 0
        · subst ha0
          have hct := put_any (HW.out.alloc (.cells #[.int .i64 0, .int .i64 n, .int .i64 x] 35)) (by omega) n x
          by_cases hE : putE n x = 0
          · have Hel := Lib.hid (show putL L n x = L ++ bitsN n.toNat x.toNat from by unfold putL; rw [if_pos hE])
            have Hbk := Lib.hid (show ∀ bs X, bitsOf bs = putL L n x ++ X → rdR bs L.length (0, n, x) = x ∧ rdE bs L.length (0, n, x) = 0 ∧ rdA bs L.length (0, n, x) = (putL L n x).length from fun bs X hb => by
              obtain ⟨b1, b2, b3⟩ := put_back hE hb
              exact ⟨b1, b2, b3⟩)
            rw [hE] at hct
            have HE := Lib.hid hE
            have Hct := Lib.hid hct
            clear hct hE
            go_wp2_with fail
            refine (Hct.out).mono ?_
            rintro e w2 ⟨rfl, hto⟩
            obtain ⟨v2, bs2, hW2, hown2, hbx, ho2, hvg2, hsz2⟩ := after_op HW.out Hown.out Ho.out hvg hto
            have hk0 := hbx.cell 0
            have hk1 := hbx.cell 1
            have hk2 := hbx.cell 2
            simp only [List.getElem?_toArray, List.getElem?_cons_zero, List.getElem?_cons_succ] at hk0 hk1 hk2
            go_wp2_with (at_builtin; refine wpList_append_own _ rfl (.tmp 74) (.tmp 76) 23 rfl w.heap.size 35 i0 (.agg #[.int .i64 0, .int .i64 0, .int .i64 0]) 3 24 Try.underlying23 hi hz0 hz1 hz2 rfl (by decide) (.slice A4 ws.length c4) ws.length (flat ws) rfl ?hown ⟨w2.heap.size, 0, none⟩ 1 1 [iv 0, iv n, iv x] rfl ?hl ?hnews ?h1 ?h63 ?hby ?hbase ?rest)
            case hown => exact hown2.alloc _
            case hl => rfl
            case hnews =>
              intro j u hu
              rw [Addr.add_lit]
              match j, hu with
              | 0, hu => simp at hu; subst hu; simp
              | 1, hu => simp at hu; subst hu; simp
              | 2, hu => simp at hu; subst hu; simp
            case h1 => intro u hu; simp at hu; rcases hu with rfl | rfl | rfl <;> rfl
            case h63 => unfold maxLen; omega
            case hby => omega
            case hbase => simp; omega
            case rest =>
              intro v3 w3 hown3 hgr _
              obtain ⟨hW3, ho3⟩ := after_append hW2 hown2 ho2 hgr
              obtain ⟨A5, c5, hv5⟩ := owns_slice hown3
              subst hv5
              have Hown3 := Lib.hid hown3
              clear hown3 hgr
              go_wp2
              go_roundw
              case rel =>
                refine ⟨i + 1, putL L n x, ws ++ [(0, n, x)], v2, bs2, by omega, by go_num, hW3, ?_, ?_, ?_, by simp; omega, ho3, hvg2⟩
                · rw [List.length_append, flat_append]; exact Hown3.out
                · exact HG.out.more _ (E := bitsN n.toNat x.toNat) Hel.out (fun bs X hb => Hbk.out bs X hb)
                · exact Nat.le_trans (putL_len L n x) (by omega)
              case measure => simp [intOf]; omega
          · have hEb : (putE n x == 0) = false := by simpa using hE
            have HL := Lib.hid (show putL L n x = L from by unfold putL; rw [if_neg hE])
            rw [HL.out] at hct
            generalize putE n x = E at *
            have Hct := Lib.hid hct
            clear hct hE
            go_wp2_with fail
            refine (Hct.out).mono ?_
            rintro e w2 ⟨rfl, hto⟩
            obtain ⟨v2, bs2, hW2, hown2, hbx, ho2, hvg2, hsz2⟩ := after_op HW.out Hown.out Ho.out hvg hto
            have hk0 := hbx.cell 0
            have hk1 := hbx.cell 1
            have hk2 := hbx.cell 2
            simp only [List.getElem?_toArray, List.getElem?_cons_zero, List.getElem?_cons_succ] at hk0 hk1 hk2
            go_wp2
            go_roundw
            case rel => exact ⟨i + 1, L, ws, v2, bs2, by omega, by go_num, hW2, hown2, HG.out, by omega, by omega, ho2, hvg2⟩
            case measure => simp [intOf]; omega
        · have hb0 : (a == 0) = false := by simpa using ha0
          by_cases ha1 : a = 1
          · subst ha1
            have hct := signedW_any (HW.out.alloc (.cells #[.int .i64 1, .int .i64 n, .int .i64 x] 35)) (by omega) n x
            by_cases hE : sgnE n x = 0
            · have Hel := Lib.hid (show sgnL L n x = L ++ bitsN n.toNat (x % 2 ^ n.toNat).toNat from by unfold sgnL; rw [if_pos hE])
              have Hbk := Lib.hid (show ∀ bs X, bitsOf bs = sgnL L n x ++ X → rdR bs L.length (1, n, x) = x ∧ rdE bs L.length (1, n, x) = 0 ∧ rdA bs L.length (1, n, x) = (sgnL L n x).length from fun bs X hb => by
                obtain ⟨b1, b2, b3⟩ := sgn_back hE hb
                exact ⟨b1, b2, b3⟩)
              rw [hE] at hct
              have HE := Lib.hid hE
              have Hct := Lib.hid hct
              clear hct hE
              go_wp2_with fail
              refine (Hct.out).mono ?_
              rintro e w2 ⟨rfl, hto⟩
              obtain ⟨v2, bs2, hW2, hown2, hbx, ho2, hvg2, hsz2⟩ := after_op HW.out Hown.out Ho.out hvg hto
              have hk0 := hbx.cell 0
              have hk1 := hbx.cell 1
              have hk2 := hbx.cell 2
              simp only [List.getElem?_toArray, List.getElem?_cons_zero, List.getElem?_cons_succ] at hk0 hk1 hk2
              go_wp2_with (at_builtin; refine wpList_append_own _ rfl (.tmp 74) (.tmp 76) 23 rfl w.heap.size 35 i0 (.agg #[.int .i64 0, .int .i64 0, .int .i64 0]) 3 24 Try.underlying23 hi hz0 hz1 hz2 rfl (by decide) (.slice A4 ws.length c4) ws.length (flat ws) rfl ?hown ⟨w2.heap.size, 0, none⟩ 1 1 [iv 1, iv n, iv x] rfl ?hl ?hnews ?h1 ?h63 ?hby ?hbase ?rest)
              case hown => exact hown2.alloc _
              case hl => rfl
              case hnews =>
                intro j u hu
                rw [Addr.add_lit]
                match j, hu with
                | 0, hu => simp at hu; subst hu; simp
                | 1, hu => simp at hu; subst hu; simp
                | 2, hu => simp at hu; subst hu; simp
              case h1 => intro u hu; simp at hu; rcases hu with rfl | rfl | rfl <;> rfl
              case h63 => unfold maxLen; omega
              case hby => omega
              case hbase => simp; omega
              case rest =>
                intro v3 w3 hown3 hgr _
                obtain ⟨hW3, ho3⟩ := after_append hW2 hown2 ho2 hgr
                obtain ⟨A5, c5, hv5⟩ := owns_slice hown3
                subst hv5
                have Hown3 := Lib.hid hown3
                clear hown3 hgr
                go_wp2
                go_roundw
                case rel =>
                  refine ⟨i + 1, sgnL L n x, ws ++ [(1, n, x)], v2, bs2, by omega, by go_num, hW3, ?_, ?_, ?_, by simp; omega, ho3, hvg2⟩
                  · rw [List.length_append, flat_append]; exact Hown3.out
                  · exact HG.out.more _ (E := bitsN n.toNat (x % 2 ^ n.toNat).toNat) Hel.out (fun bs X hb => Hbk.out bs X hb)
                  · exact Nat.le_trans (sgnL_len L n x) (by omega)
                case measure => simp [intOf]; omega
            · have hEb : (sgnE n x == 0) = false := by simpa using hE
              have HL := Lib.hid (show sgnL L n x = L from by unfold sgnL; rw [if_neg hE])
              rw [HL.out] at hct
              generalize sgnE n x = E at *
              have Hct := Lib.hid hct
              clear hct hE
              go_wp2_with fail
              refine (Hct.out).mono ?_
              rintro e w2 ⟨rfl, hto⟩
              obtain ⟨v2, bs2, hW2, hown2, hbx, ho2, hvg2, hsz2⟩ := after_op HW.out Hown.out Ho.out hvg hto
              have hk0 := hbx.cell 0
              have hk1 := hbx.cell 1
              have hk2 := hbx.cell 2
              simp only [List.getElem?_toArray, List.getElem?_cons_zero, List.getElem?_cons_succ] at hk0 hk1 hk2
              go_wp2
              go_roundw
              case rel => exact ⟨i + 1, L, ws, v2, bs2, by omega, by go_num, hW2, hown2, HG.out, by omega, by omega, ho2, hvg2⟩
              case measure => simp [intOf]; omega
          · have hb1 : (a == 1) = false := by simpa using ha1
            by_cases ha2 : a = 2
            · subst ha2
              by_cases hx1000 : x ≤ 1000
              · have hxd : decide (x ≤ 1000) = true := by simpa using hx1000
                have hct := unaryW_any (HW.out.alloc (.cells #[.int .i64 2, .int .i64 n, .int .i64 x] 35)) (by omega) x
                by_cases hE : unE x = 0
                · have Hel := Lib.hid (show unL L x = L ++ (List.replicate x.toNat 0 ++ [1]) from by unfold unL; rw [if_pos hE, List.append_assoc])
                  have Hbk := Lib.hid (show ∀ bs X, bitsOf bs = unL L x ++ X → rdR bs L.length (2, n, x) = x ∧ rdE bs L.length (2, n, x) = 0 ∧ rdA bs L.length (2, n, x) = (unL L x).length from fun bs X hb => by
                    obtain ⟨b1, b2, b3⟩ := un_back hE hb
                    exact ⟨b1, b2, b3⟩)
                  rw [hE] at hct
                  have HE := Lib.hid hE
                  have Hct := Lib.hid hct
                  clear hct hE
                  go_wp2_with fail
                  refine (Hct.out).mono ?_
                  rintro e w2 ⟨rfl, hto⟩
                  obtain ⟨v2, bs2, hW2, hown2, hbx, ho2, hvg2, hsz2⟩ := after_op HW.out Hown.out Ho.out hvg hto
                  have hk0 := hbx.cell 0
                  have hk1 := hbx.cell 1
                  have hk2 := hbx.cell 2
                  simp only [List.getElem?_toArray, List.getElem?_cons_zero, List.getElem?_cons_succ] at hk0 hk1 hk2
                  go_wp2_with (at_builtin; refine wpList_append_own _ rfl (.tmp 74) (.tmp 76) 23 rfl w.heap.size 35 i0 (.agg #[.int .i64 0, .int .i64 0, .int .i64 0]) 3 24 Try.underlying23 hi hz0 hz1 hz2 rfl (by decide) (.slice A4 ws.length c4) ws.length (flat ws) rfl ?hown ⟨w2.heap.size, 0, none⟩ 1 1 [iv 2, iv n, iv x] rfl ?hl ?hnews ?h1 ?h63 ?hby ?hbase ?rest)
                  case hown => exact hown2.alloc _
                  case hl => rfl
                  case hnews =>
                    intro j u hu
                    rw [Addr.add_lit]
                    match j, hu with
                    | 0, hu => simp at hu; subst hu; simp
                    | 1, hu => simp at hu; subst hu; simp
                    | 2, hu => simp at hu; subst hu; simp
                  case h1 => intro u hu; simp at hu; rcases hu with rfl | rfl | rfl <;> rfl
                  case h63 => unfold maxLen; omega
                  case hby => omega
                  case hbase => simp; omega
                  case rest =>
                    intro v3 w3 hown3 hgr _
                    obtain ⟨hW3, ho3⟩ := after_append hW2 hown2 ho2 hgr
                    obtain ⟨A5, c5, hv5⟩ := owns_slice hown3
                    subst hv5
                    have Hown3 := Lib.hid hown3
                    clear hown3 hgr
                    go_wp2
                    go_roundw
                    case rel =>
                      refine ⟨i + 1, unL L x, ws ++ [(2, n, x)], v2, bs2, by omega, by go_num, hW3, ?_, ?_, ?_, by simp; omega, ho3, hvg2⟩
                      · rw [List.length_append, flat_append]; exact Hown3.out
                      · exact HG.out.more _ (E := (List.replicate x.toNat 0 ++ [1])) Hel.out (fun bs X hb => Hbk.out bs X hb)
                      · exact Nat.le_trans (unL_len L x hx1000) (by omega)
                    case measure => simp [intOf]; omega
                · have hEb : (unE x == 0) = false := by simpa using hE
                  have HL := Lib.hid (show unL L x = L from by unfold unL; rw [if_neg hE])
                  rw [HL.out] at hct
                  generalize unE x = E at *
                  have Hct := Lib.hid hct
                  clear hct hE
                  go_wp2_with fail
                  refine (Hct.out).mono ?_
                  rintro e w2 ⟨rfl, hto⟩
                  obtain ⟨v2, bs2, hW2, hown2, hbx, ho2, hvg2, hsz2⟩ := after_op HW.out Hown.out Ho.out hvg hto
                  have hk0 := hbx.cell 0
                  have hk1 := hbx.cell 1
                  have hk2 := hbx.cell 2
                  simp only [List.getElem?_toArray, List.getElem?_cons_zero, List.getElem?_cons_succ] at hk0 hk1 hk2
                  go_wp2
                  go_roundw
                  case rel => exact ⟨i + 1, L, ws, v2, bs2, by omega, by go_num, hW2, hown2, HG.out, by omega, by omega, ho2, hvg2⟩
                  case measure => simp [intOf]; omega
              · have hxd : decide (x ≤ 1000) = false := by simpa using hx1000
                have hb8 := HW.out.alloc (.cells #[.int .i64 2, .int .i64 n, .int .i64 x] 35)
                go_wp2
                go_roundw
                case rel => exact ⟨i + 1, L, ws, v, bs, by omega, by go_num, hb8, Hown.out.alloc _, HG.out, by omega, by omega, Ho.out.alloc _, hvg⟩
                case measure => simp [intOf]; omega
            · have hb2 : (a == 2) = false := by simpa using ha2
              by_cases ha3 : a = 3
              · subst ha3
                have hct := alignW_any (HW.out.alloc (.cells #[.int .i64 3, .int .i64 n, .int .i64 x] 35)) (by omega)
                have hpad := padN_le L.length
                have Hct := Lib.hid hct
                clear hct
                go_wp2_with fail
                refine (Hct.out).mono ?_
                rintro e w2 ⟨rfl, hto⟩
                obtain ⟨v2, bs2, hW2, hown2, hbx, ho2, hvg2, hsz2⟩ := after_op HW.out Hown.out Ho.out hvg hto
                have hk0 := hbx.cell 0
                have hk1 := hbx.cell 1
                have hk2 := hbx.cell 2
                simp only [List.getElem?_toArray, List.getElem?_cons_zero, List.getElem?_cons_succ] at hk0 hk1 hk2
                have hkf := hbx.frozen 2
                have hW2s := hW2.keep ((Only.refl (Just wr.heap.size) w2).setCell (p := ⟨wr.heap.size, 2, none⟩) (.inl rfl) (iv (padN L.length : Int))) (by show ¬ (w.heap.size = wr.heap.size); have := HW.out.box.lt; omega) (fun g hg e => owns_box hW2.own hbx (by decide) (by rw [hg]; exact congrArg some e))
                have hown2s := owns_only hown2 ((Only.refl (Just wr.heap.size) w2).setCell (p := ⟨wr.heap.size, 2, none⟩) (.inl rfl) (iv (padN L.length : Int))) (fun g hg e => by have := owns_lt Hown.out hg; have h5 : g = wr.heap.size := e; omega)
                have ho2s := ho2.setCell (p := ⟨wr.heap.size, 2, none⟩) (.inr (show w.heap.size ≤ wr.heap.size by omega)) (iv (padN L.length : Int))
                go_wp2_with (at_builtin; refine wpList_append_own _ rfl (.tmp 74) (.tmp 76) 23 rfl w.heap.size 35 i0 (.agg #[.int .i64 0, .int .i64 0, .int .i64 0]) 3 24 Try.underlying23 hi hz0 hz1 hz2 rfl (by decide) (.slice A4 ws.length c4) ws.length (flat ws) rfl ?hown ⟨w2.heap.size, 0, none⟩ 1 1 [iv 3, iv n, iv (padN L.length : Int)] rfl ?hl ?hnews ?h1 ?h63 ?hby ?hbase ?rest)
                case hown => exact hown2s.alloc _
                case hl => rfl
                case hnews =>
                  intro j u hu
                  rw [Addr.add_lit]
                  match j, hu with
                  | 0, hu => simp at hu; subst hu; exact (World.cell?_alloc_at _ _ _ _ (by simp)).trans (by simp)
                  | 1, hu => simp at hu; subst hu; exact (World.cell?_alloc_at _ _ _ _ (by simp)).trans (by simp)
                  | 2, hu => simp at hu; subst hu; exact (World.cell?_alloc_at _ _ _ _ (by simp)).trans (by simp)
                case h1 => intro u hu; simp at hu; rcases hu with rfl | rfl | rfl <;> rfl
                case h63 => unfold maxLen; omega
                case hby => omega
                case hbase => simp; omega
                case rest =>
                  intro v3 w3 hown3 hgr _
                  obtain ⟨hW3, ho3⟩ := after_append hW2s hown2s ho2s hgr
                  obtain ⟨A5, c5, hv5⟩ := owns_slice hown3
                  subst hv5
                  have Hown3 := Lib.hid hown3
                  clear hown3 hgr
                  go_wp2
                  go_roundw
                  case rel =>
                    refine ⟨i + 1, (L ++ List.replicate (padN L.length) 0), ws ++ [(3, n, (padN L.length : Int))], v2, bs2, by omega, by go_num, hW3, ?_, ?_, ?_, by simp; omega, ho3, hvg2⟩
                    · rw [List.length_append, flat_append]; exact Hown3.out
                    · exact HG.out.more _ rfl (fun bs X hb => by obtain ⟨b1, b2, b3⟩ := align_back hb; exact ⟨b1, b2, by rw [List.length_append, List.length_replicate]; exact b3⟩)
                    · simp; omega
                  case measure => simp [intOf]; omega
              · have hb3 : (a == 3) = false := by simpa using ha3
                have hb8 := HW.out.alloc (.cells #[.int .i64 a, .int .i64 n, .int .i64 x] 35)
                go_wp2
                go_roundw
                case rel => exact ⟨i + 1, L, ws, v, bs, by omega, by go_num, hb8, Hown.out.alloc _, HG.out, by omega, by omega, Ho.out.alloc _, hvg⟩
                case measure => simp [intOf]; omega
      · obtain rfl : i = os.length := by omega
        obtain ⟨A4, c4, hv4⟩ := owns_slice hown
        subst hv4
        have Hown := Lib.hid hown
        clear hown
        have hp := hW.packs
        have hplo := hp.lo
        have hphi := hp.hi
        have hbl := hW.len
        go_wp2_with fail
        refine (bytes_any hW).mono ?_
        rintro e w6 ⟨v6, rfl, hown6, ho6⟩
        have hW6 := hW.nix ho6
        have Hown6 := Lib.hid (owns_only Hown.out ho6 (fun _ _ e => e))
        have hSrc := Src.of_owns hown6 (by omega)
        have Hnr := Lib.hid (newReader_any hSrc hp.lt)
        have o6 := ho.trans ho6
        obtain ⟨A6, c6, hv6⟩ := owns_slice hown6
        subst hv6
        clear hown6 hSrc
        go_wp2_with fail
        refine (Hnr.out).mono ?_
        rintro e w7 ⟨r, rv, rfl, hR7, hN7, ho7⟩
        have hrn : w.heap.size ≤ r := by have := hN7.1; have := o6.size; omega
        have hW7 := hW6.nix ho7
        have Hown7 := Lib.hid (owns_only Hown6.out ho7 (fun _ _ e => e))
        have o7 := o6.trans ho7
        clear hN7 ho7 ho6 hW6 Hown6 Hnr
        go_wp2_with fail
        refine (left_any hR7).mono ?_
        rintro e w8 ⟨rfl, m8, rfl⟩
        go_wp2_with fail
        refine (len_any (hW7.drewN m8)).mono ?_
        rintro e w8 ⟨rfl, rfl⟩
        have hn1 : ¬ (8 * (bs.length : Int) - ((0 : Nat) : Int) < (L.length : Int)) := by omega
        have hn1' : decide (8 * (bs.length : Int) - ((0 : Nat) : Int) < (L.length : Int)) = false := by simpa using hn1
        have hn1'' : decide (8 * (bs.length : Int) < (L.length : Int)) = false := by simp; omega
        go_wp2_with fail
        refine (left_any (hR7.drewN m8)).mono ?_
        rintro e w9 ⟨rfl, m9, rfl⟩
        go_wp2_with fail
        refine (len_any (hW7.drewN (m8 + m9))).mono ?_
        rintro e w9 ⟨rfl, rfl⟩
        have hn2 : decide ((L.length : Int) + 8 ≤ 8 * (bs.length : Int) - ((0 : Nat) : Int)) = false := by simp; omega
        have hn2' : decide ((L.length : Int) + 8 ≤ 8 * (bs.length : Int)) = false := by simp; omega
        obtain ⟨pos, p0, p1, hpos⟩ := hG
        have hbits := hp.bits
        have Hpos := Lib.hid (fun j hj => hpos bs _ hbits j hj)
        have Hp1 := Lib.hid p1
        have hR8 := hR7.drewN (m8 + m9)
        rw [← p0] at hR8
        have hW8 := hW7.drewN (m8 + m9)
        have hown8 := owns_drewN Hown7.out (m8 + m9)
        have o8 := o7.drewN (m8 + m9)
        clear hpos hbits p1 p0 hW hW7 hR7 hp
        go_wp2
        go_loopw [9] (fun s9 wr => ReadRel w ws pos r rv (.slice A4 ws.length c4) v bs L s9 wr) (fun s9 _ => ws.length - (intOf s9).toNat)
        case atStart => exact ⟨0, Nat.zero_le _, rfl, hR8, hW8, hown8, o8⟩
        case round =>
          clear hR8 hW8 hown8 o8 o7 o6 Hown Hown7 ho
          obtain ⟨j, hj1, rfl, hR10, hW10, hown10, ho10⟩ := hrel
          have HR10 := Lib.hid hR10
          have HW10 := Lib.hid hW10
          have Hown10 := Lib.hid hown10
          have Ho10 := Lib.hid ho10
          by_cases hlt : j < ws.length
          · obtain ⟨b4, off4, rfl, hb4, x0, x1, x2⟩ := (OpsIn.of_owns hown10).at_ hlt
            have Hgj := Lib.hid (Hpos.out j hlt)
            generalize hoe : ws[j] = o at *
            obtain ⟨a, n, x⟩ := o
            simp only at x0 x1 x2
            have hlt2 : (j : Int) < (ws.length : Int) := by omega
            clear hoe hR10 hW10 hown10 ho10
            by_cases ha0 : a = 0
            · subst ha0
              have hct := take_any (HR10.out.alloc (.cells #[.int .i64 0, .int .i64 n, .int .i64 x] 35)) n
              have hg3 := Hgj.out
              simp only [rdR, rdE, rdA, if_true] at hg3
              rw [hg3.1, hg3.2.1, hg3.2.2] at hct
              have Hct := Lib.hid hct
              clear hct hg3
              go_wp2_with fail
              refine (Hct.out).mono ?_
              rintro e w12 ⟨rfl, hR12, ho12⟩
              obtain ⟨hW12, hown12, hbx12, hoN12⟩ := after_read HW10.out Hown10.out Ho10.out HR10.out hrn ho12
              have hk2 := hbx12.cell 2
              simp only [List.getElem?_toArray, List.getElem?_cons_zero, List.getElem?_cons_succ] at hk2
              have hxx : (x == x) = true := by simp
              have hxx2 : (x != x) = false := by simp
              go_wp2
              go_roundw
              case rel => exact ⟨j + 1, by omega, by go_num, hR12, hW12, hown12, hoN12⟩
              case measure => simp [intOf]; omega
            · have hb0 : (a == 0) = false := by simpa using ha0
              by_cases ha1 : a = 1
              · subst ha1
                have hct := signed_any (HR10.out.alloc (.cells #[.int .i64 1, .int .i64 n, .int .i64 x] 35)) n
                have hg3 := Hgj.out
                simp only [rdR, rdE, rdA, if_true, show ¬ ((1 : Int) = 0) from by decide, if_false] at hg3
                rw [hg3.1, hg3.2.1, hg3.2.2] at hct
                have Hct := Lib.hid hct
                clear hct hg3
                go_wp2_with fail
                refine (Hct.out).mono ?_
                rintro e w12 ⟨rfl, hR12, ho12⟩
                obtain ⟨hW12, hown12, hbx12, hoN12⟩ := after_read HW10.out Hown10.out Ho10.out HR10.out hrn ho12
                have hk2 := hbx12.cell 2
                simp only [List.getElem?_toArray, List.getElem?_cons_zero, List.getElem?_cons_succ] at hk2
                have hxx : (x == x) = true := by simp
                have hxx2 : (x != x) = false := by simp
                go_wp2
                go_roundw
                case rel => exact ⟨j + 1, by omega, by go_num, hR12, hW12, hown12, hoN12⟩
                case measure => simp [intOf]; omega
              · have hb1 : (a == 1) = false := by simpa using ha1
                by_cases ha2 : a = 2
                · subst ha2
                  have hct := runary_any (HR10.out.alloc (.cells #[.int .i64 2, .int .i64 n, .int .i64 x] 35))
                  have hg3 := Hgj.out
                  simp only [rdR, rdE, rdA, if_true, show ¬ ((2 : Int) = 0) from by decide, show ¬ ((2 : Int) = 1) from by decide, if_false] at hg3
                  rw [hg3.1, hg3.2.1, hg3.2.2] at hct
                  have Hct := Lib.hid hct
                  clear hct hg3
                  go_wp2_with fail
                  refine (Hct.out).mono ?_
                  rintro e w12 ⟨rfl, hR12, ho12⟩
                  obtain ⟨hW12, hown12, hbx12, hoN12⟩ := after_read HW10.out Hown10.out Ho10.out HR10.out hrn ho12
                  have hk2 := hbx12.cell 2
                  simp only [List.getElem?_toArray, List.getElem?_cons_zero, List.getElem?_cons_succ] at hk2
                  have hxx : (x == x) = true := by simp
                  have hxx2 : (x != x) = false := by simp
                  go_wp2
                  go_roundw
                  case rel => exact ⟨j + 1, by omega, by go_num, hR12, hW12, hown12, hoN12⟩
                  case measure => simp [intOf]; omega
                · have hb2 : (a == 2) = false := by simpa using ha2
                  have hct := ralign_any (HR10.out.alloc (.cells #[.int .i64 a, .int .i64 n, .int .i64 x] 35))
                  have hg3 := Hgj.out
                  simp only [rdR, rdE, rdA, ha0, ha1, ha2, if_false] at hg3
                  rw [hg3.1, hg3.2.1, hg3.2.2] at hct
                  have Hct := Lib.hid hct
                  clear hct hg3
                  go_wp2_with fail
                  refine (Hct.out).mono ?_
                  rintro e w12 ⟨rfl, hR12, ho12⟩
                  obtain ⟨hW12, hown12, hbx12, hoN12⟩ := after_read HW10.out Hown10.out Ho10.out HR10.out hrn ho12
                  have hk2 := hbx12.cell 2
                  simp only [List.getElem?_toArray, List.getElem?_cons_zero, List.getElem?_cons_succ] at hk2
                  have hxx : (x == x) = true := by simp
                  have hxx2 : (x != x) = false := by simp
                  go_wp2
                  go_roundw
                  case rel => exact ⟨j + 1, by omega, by go_num, hR12, hW12, hown12, hoN12⟩
                  case measure => simp [intOf]; omega
          · obtain rfl : j = ws.length := by omega
            rw [Hp1.out] at hR10
            have hc0 := hR10.cell0
            clear HR10
            go_wp2_with fail
            refine (at_any _ _ _ hc0).mono ?_
            rintro e w11 ⟨rfl, rfl⟩
            go_wp2_with fail
            refine (len_any hW10).mono ?_
            rintro e w11 ⟨rfl, rfl⟩
            go_wp2_with fail
            refine (awake_any _).mono ?_
            rintro e w12 ⟨rfl, ho12⟩
            go_wp2
            go_ret
            exact ⟨rfl, ho10.trans ho12⟩
end Go.Proofs.Ytpcddacfhmkkbaa
