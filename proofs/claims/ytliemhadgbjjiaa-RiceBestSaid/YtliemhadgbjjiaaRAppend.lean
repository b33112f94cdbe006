/-
  The Writer's Append, of lists none of which is empty.
-/
import Derived.Test.YtliemhadgbjjiaaRAwake
import Derived.Deep.AppendLies
namespace Go.Proofs.Ytliemhadgbjjiaa
open Go.RowKit

/-- The slice v0 holds these lists of bytes, none of them empty, in every world in which no other blocks than F's have turned. -/
def Lists (w : World) (F : Nat → Prop) (v0 : Value) (ll : List (List Nat)) : Prop :=
  ∃ A c, v0 = .slice A ll.length c ∧ ∀ j, (hj : j < ll.length) → ∃ g off ad c', A = some ⟨g, off, none⟩ ∧ 0 < ll[j].length ∧ ll[j].length ≤ 1048576 ∧ (∀ x ∈ ll[j], x < 256) ∧
    ∀ w', Only F w w' → w'.cell? ⟨g, off + j, none⟩ = some (.slice (some ad) ll[j].length c') ∧ ∀ k u, (ll[j].map byt)[k]? = some u → w'.cell? (ad.add k) = some u

def AppRel (w : World) (b : Nat) (v : Value) (L : List Nat) (ll : List (List Nat)) (s12 : Value) (wr : World) : Prop :=
  ∃ i : Nat, i ≤ ll.length ∧ s12 = iv i ∧ WrTo w b v (L ++ bitsOf (ll.take i).flatten) wr
def AppIn (w : World) (b : Nat) (v : Value) (L m : List Nat) (s39 : Value) (wr : World) : Prop :=
  ∃ k : Nat, k ≤ m.length ∧ s39 = iv k ∧ WrTo w b v (L ++ bitsOf (m.take k)) wr

theorem Packs.full {bs l m : List Nat} (h : Packs bs l) (ha : l.length % 8 = 0) (hm : ∀ x ∈ m, x < 256) : Packs (bs ++ m) (l ++ bitsOf m) := by
  have h1 := h.lo
  have h2 := h.hi
  have e : 8 * bs.length = l.length := by omega
  have hb := h.bits
  rw [e, Nat.sub_self, List.replicate_zero, List.append_nil] at hb
  have hl := bitsOf_len m
  refine ⟨fun x hx => ?_, ?_, ?_, ?_⟩
  · rcases List.mem_append.1 hx with h3 | h3
    · exact h.lt x h3
    · exact hm x h3
  · rw [bitsOf_append, hb, List.length_append, List.length_append, hl, show 8 * (bs.length + m.length) - (l.length + 8 * m.length) = 0 from by omega]
    simp
  · rw [List.length_append, List.length_append, hl]; omega
  · rw [List.length_append, List.length_append, hl]; omega

set_option maxHeartbeats 2000000 in
theorem append_any {w : World} {b : Nat} {v : Value} {bs L : List Nat} {v0 : Value} {ll : List (List Nat)} (h : Wr w b v bs L) (hLL : Lists w (WF b v) v0 ll) (hn : ll.length ≤ 1000) (hl : ∀ i, i ≤ ll.length → (L ++ bitsOf (ll.take i).flatten).length ≤ 140737488355328) :
    Calls Try.prog 21 #[.pointer (some ⟨b, 0, none⟩), v0] w fun e w' => e = .returned (.tuple #[]) ∧ WrTo w b v (L ++ bitsOf ll.flatten) w' := by
  obtain ⟨i0, hi, hz0, hz1, hz2⟩ := info_parts Try.info_byte
  obtain ⟨A, c, hv0, hcell⟩ := hLL
  subst hv0
  have Hcell := Lib.hid hcell
  have Hl := Lib.hid hl
  have hW0 := Lib.hid (WrTo.same h rfl)
  clear hcell h hl
  go_enter Try.func21, Try.ntmps21
  go_wp2
  go_loopw [12] (fun s12 wr => AppRel w b v L ll s12 wr) (fun s12 _ => ll.length - (intOf s12).toNat)
  case atStart => exact ⟨0, Nat.zero_le _, rfl, by simpa [bitsOf] using hW0.out⟩
  case round =>
    obtain ⟨i, hi1, rfl, v1, bs1, hW1, ho1, hm1⟩ := hrel
    by_cases hlt : i < ll.length
    · obtain ⟨g, off, ad, c', rfl, hpos, hbig, h256, hall⟩ := Hcell.out i hlt
      have hfl : (ll.take (i + 1)).flatten = (ll.take i).flatten ++ ll[i] := by rw [List.take_succ_eq_append_getElem hlt, List.flatten_append]; simp
      have hnext : L ++ bitsOf (ll.take (i + 1)).flatten = (L ++ bitsOf (ll.take i).flatten) ++ bitsOf ll[i] := by rw [hfl, bitsOf_append, List.append_assoc]
      have hl1 := Hl.out (i + 1) (by omega)
      rw [hnext] at hl1
      have Hnext := Lib.hid hnext
      have Hall := Lib.hid hall
      have H256 := Lib.hid h256
      clear hfl hnext hall h256
      generalize ll[i] = m at *
      generalize L ++ bitsOf (ll.take i).flatten = L1 at *
      have hbm := bitsOf_len m
      rw [List.length_append, hbm] at hl1
      have Hbm := Lib.hid hbm
      clear hbm
      obtain ⟨hx, hsrc⟩ := Hall.out wr ho1
      have Hsrc := Lib.hid hsrc
      clear hsrc
      have hlt2 : (i : Int) < (ll.length : Int) := by omega
      have Hpad := Lib.hid (pad_nat b L1.length wr hW1.cell0)
      have HW1 := Lib.hid hW1
      have Ho1 := Lib.hid ho1
      have Hm1 := Lib.hid hm1
      have hl1len := hW1.len
      obtain ⟨A5, c5, hv5⟩ := owns_slice hW1.own
      have hc1 := hW1.cell1
      rw [hv5] at hc1
      have hf1 := hW1.box.frozen 1
      have hne1 := hW1.ne
      have Hv5 := Lib.hid hv5
      clear hW1 ho1 hm1 hv5
      by_cases hP : padN L1.length = 0
      · have ha8 : L1.length % 8 = 0 := by unfold padN at hP; omega
        rw [hP] at Hpad
        have Ha8 := Lib.hid ha8
        clear hP ha8
        go_wp2_with fail
        refine (Hpad.out).mono ?_
        rintro e w2 ⟨rfl, rfl⟩
        go_wp2_with (at_builtin; refine wpList_append_lies _ rfl (.tmp 25) (.tmp 26) 41 rfl 0 5 i0 (.int .u8 0) 1 1 Try.underlying41 hi hz0 hz1 hz2 rfl (by decide) (.slice A5 bs1.length c5) bs1.length (bs1.map byt) rfl ?hown ad m.length c' (m.map byt) rfl ?hl ?hnews ?h1 hpos ?h63 ?hby ?hbase wr.heap.size ?hH ?rest)
        case hown => have := HW1.out.own; rw [Hv5.out] at this; exact this
        case hl => simp
        case hnews => exact Hsrc.out
        case h1 => intro u hu; obtain ⟨y, _, rfl⟩ := List.mem_map.1 hu; rfl
        case h63 => unfold maxLen; omega
        case hby => omega
        case hbase => omega
        case hH => rfl
        case rest =>
          intro g3 cap3 w3 hown3 hgr hat hlt3
          have hb3 := HW1.out.box.grown hgr (by rw [← Hv5.out]; exact hne1)
          have hk0 := hb3.cell 0
          have hk1 := hb3.cell 1
          have hkf := hb3.frozen 1
          have hkf0 := hb3.frozen 0
          simp only [List.getElem?_toArray, List.getElem?_cons_zero, List.getElem?_cons_succ] at hk0 hk1
          rw [Hv5.out] at hk1
          have ho3 : Only (WF b v1) wr w3 := (Only.refl _ _).grown hgr (fun k e => .inl (.inr (by rw [Hv5.out]; exact e)))
          have hown4 : (w3.setCell ⟨b, 1, none⟩ (.slice (some ⟨g3, 0, none⟩) (bs1.length + m.length) cap3)).ownsRow 0 5 1 (.slice (some ⟨g3, 0, none⟩) (bs1.length + m.length) cap3) (bs1.length + m.length) (bs1.map byt ++ m.map byt) :=
            owns_only hown3 ((Only.refl (Just b) w3).setCell (p := ⟨b, 1, none⟩) (.inl rfl) _) (fun q hq e => owns_box hown3 hb3 (by decide) (by rw [hq]; exact congrArg some e))
          have hb4 := hb3.put 1 (.slice (some ⟨g3, 0, none⟩) (bs1.length + m.length) cap3)
          have ho4 := ho3.setCell (p := ⟨b, 1, none⟩) (.inl (.inl rfl)) (.slice (some ⟨g3, 0, none⟩) (bs1.length + m.length) cap3)
          have hd0 := hb4.cell 0
          have hdf := hb4.frozen 0
          simp at hd0
          have HH := Lib.hid (And.intro hown4 (And.intro hb4 (And.intro ho4 hat)))
          clear hown3 hgr hat hb3 ho3 hown4 hb4 ho4
          go_wp2_with fail
          refine (forth_any _ L1.length _ _ hd0 hdf (by omega) (by omega)).mono ?_
          rintro e w5 ⟨rfl, rfl⟩
          go_wp2
          go_roundw
          case rel =>
            obtain ⟨hown4, hb4, ho4, hat⟩ := HH.out
            have hbm := Hbm.out
            refine ⟨i + 1, by omega, by go_num, ?_⟩
            rw [Hnext.out]
            refine WrTo.of Ho1.out Hm1.out ⟨.slice (some ⟨g3, 0, none⟩) (bs1.length + m.length) cap3, bs1 ++ m, ⟨?_, ?_, HW1.out.packs.full Ha8.out H256.out, ?_⟩, ?_, ?_⟩
            · have h9 := hb4.put 0 (.int .i64 ((L1.length + 8 * m.length : Nat) : Int))
              rw [List.length_append, hbm]
              rw [show ((L1.length + 8 * m.length : Nat) : Int) = (L1.length : Int) + 8 * (m.length : Int) from by omega] at h9 ⊢
              simpa using h9
            · rw [List.length_append, List.map_append]
              exact owns_only hown4 ((Only.refl (Just b) _).setCell (p := ⟨b, 0, none⟩) (.inl rfl) _) (fun q hq e => owns_box hown4 hb4 (by decide) (by rw [hq]; exact congrArg some e))
            · rw [List.length_append, hbm]; omega
            · exact ho4.setCell (p := ⟨b, 0, none⟩) (.inl (.inl rfl)) _
            · intro q hq
              simp [Value.ownBlock] at hq
              subst hq
              rcases hat with h5 | h5
              · exact .inl (by rw [Hv5.out]; exact h5)
              · exact .inr (by omega)
          case measure => simp [intOf]; omega
      · have hPb : ((padN L1.length : Int) == 0) = false := by rw [beq_eq_false_iff_ne]; omega
        generalize padN L1.length = P at *
        clear hP hc1 hf1 hne1
        have hst : WrTo w b v (L1 ++ bitsOf (m.take 0)) wr := by
          rw [List.take_zero, bitsOf_nil, List.append_nil]
          exact ⟨v1, bs1, HW1.out, Ho1.out, Hm1.out⟩
        have Hst := Lib.hid hst
        clear hst
        go_wp2_with fail
        refine (Hpad.out).mono ?_
        rintro e w2 ⟨rfl, rfl⟩
        clear Hpad HW1 Ho1 Hm1 Hv5 Hsrc
        go_wp2
        go_loopw [39] (fun s39 wi => AppIn w b v L1 m s39 wi) (fun s39 _ => m.length - (intOf s39).toNat)
        case atStart => exact ⟨0, Nat.zero_le _, rfl, Hst.out⟩
        case round =>
          obtain ⟨k, hk, rfl, v2, bs2, hW2, ho2, hm2⟩ := hrel
          by_cases hkl : k < m.length
          · have hb := (Hall.out _ ho2).2 k (byt m[k]) (by simp [hkl])
            unfold byt at hb
            have hy := H256.out _ (List.getElem_mem hkl)
            have hmt : L1 ++ bitsOf (m.take (k + 1)) = (L1 ++ bitsOf (m.take k)) ++ bitsN 8 m[k] := by
              rw [List.take_succ_eq_append_getElem hkl, bitsOf_append, bitsOf_cons, bitsOf_nil, List.append_nil, List.append_assoc]
            have Hmt := Lib.hid hmt
            have hL2 : (L1 ++ bitsOf (m.take k)).length ≤ 281474976710656 := by rw [List.length_append, bitsOf_len, List.length_take]; omega
            have hnum := number_any hW2 8 (m[k] : Int) (by omega) (by omega)
            have ey : ((m[k] : Int) % 2 ^ 8).toNat = m[k] := by omega
            rw [ey] at hnum
            have Hn := Lib.hid hnum
            clear hmt hnum ey
            generalize m[k] = y at *
            have hkl2 : (k : Int) < (m.length : Int) := by omega
            go_wp2_with fail
            refine (Hn.out).mono ?_
            rintro e w4 ⟨v4, bs4, rfl, hW4⟩
            go_wp2
            go_roundw
            case rel =>
              refine ⟨k + 1, by omega, by go_num, ?_⟩
              rw [Hmt.out]
              exact WrTo.of ho2 hm2 ⟨v4, bs4, hW4⟩
            case measure => simp [intOf]; omega
          · obtain rfl : k = m.length := by omega
            have hkl2 : decide ((m.length : Int) < (m.length : Int)) = false := by simp
            go_wp2
            go_roundw
            case rel =>
              refine ⟨i + 1, by omega, by go_num, ?_⟩
              rw [Hnext.out]
              have h9 : WrTo w b v (L1 ++ bitsOf (m.take m.length)) wr := ⟨v2, bs2, hW2, ho2, hm2⟩
              rw [List.take_length] at h9
              exact h9
            case measure => simp [intOf]; omega
    · obtain rfl : i = ll.length := by omega
      have hlt2 : decide ((ll.length : Int) < (ll.length : Int)) = false := by simp
      have hfin : WrTo w b v (L ++ bitsOf ll.flatten) wr := by
        have : WrTo w b v (L ++ bitsOf (ll.take ll.length).flatten) wr := ⟨v1, bs1, hW1, ho1, hm1⟩
        rw [List.take_length] at this
        exact this
      have Hfin := Lib.hid hfin
      clear hfin
      go_wp2
      go_end0
      exact ⟨rfl, Hfin.out⟩
end Go.Proofs.Ytliemhadgbjjiaa
