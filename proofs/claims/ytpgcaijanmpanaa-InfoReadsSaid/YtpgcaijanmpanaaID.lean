/-
  The info of pieces.
-/
import Derived.Test.YtpgcaijanmpanaaIC
import Derived.Test.YtpgcaijanmpanaaIE
import Derived.Deep.MidRow
namespace Go.Proofs.Ytpgcaijanmpanaa
open Go.RowKit Go.Shelf

/-- the least, the greatest number of a list that has some -/
def minL : List Int → Int
  | [] => 0
  | [x] => x
  | x :: y :: l => min x (minL (y :: l))
def maxL : List Int → Int
  | [] => 0
  | [x] => x
  | x :: y :: l => max x (maxL (y :: l))
theorem minL_is : ∀ (l : List Int) (m : Int), m ∈ l → (∀ x ∈ l, m ≤ x) → minL l = m
  | [], _, h, _ => by cases h
  | [x], m, h, _ => by simp at h; exact h.symm
  | x :: y :: l, m, h, h2 => by
    have hx := h2 x (List.mem_cons_self ..)
    rcases List.mem_cons.1 h with rfl | h
    · show min m (minL (y :: l)) = m
      have : ∀ (L : List Int), L ≠ [] → (∀ z ∈ L, m ≤ z) → m ≤ minL L := by
        intro L
        induction L with
        | nil => intro h; exact absurd rfl h
        | cons z L ih =>
          intro _ hz
          cases L with
          | nil => exact hz z (List.mem_cons_self ..)
          | cons z2 L =>
            have h1 := hz z (List.mem_cons_self ..)
            have h3 := ih (by simp) (fun q hq => hz q (List.mem_cons_of_mem _ hq))
            show m ≤ min z (minL (z2 :: L))
            omega
      have := this (y :: l) (by simp) (fun z hz => h2 z (List.mem_cons_of_mem _ hz))
      omega
    · have := minL_is (y :: l) m h (fun z hz => h2 z (List.mem_cons_of_mem _ hz))
      show min x (minL (y :: l)) = m
      omega
theorem maxL_is : ∀ (l : List Int) (m : Int), m ∈ l → (∀ x ∈ l, x ≤ m) → maxL l = m
  | [], _, h, _ => by cases h
  | [x], m, h, _ => by simp at h; exact h.symm
  | x :: y :: l, m, h, h2 => by
    have hx := h2 x (List.mem_cons_self ..)
    rcases List.mem_cons.1 h with rfl | h
    · show max m (maxL (y :: l)) = m
      have : ∀ (L : List Int), L ≠ [] → (∀ z ∈ L, z ≤ m) → maxL L ≤ m := by
        intro L
        induction L with
        | nil => intro h; exact absurd rfl h
        | cons z L ih =>
          intro _ hz
          cases L with
          | nil => exact hz z (List.mem_cons_self ..)
          | cons z2 L =>
            have h1 := hz z (List.mem_cons_self ..)
            have h3 := ih (by simp) (fun q hq => hz q (List.mem_cons_of_mem _ hq))
            show max z (maxL (z2 :: L)) ≤ m
            omega
      have := this (y :: l) (by simp) (fun z hz => h2 z (List.mem_cons_of_mem _ hz))
      omega
    · have := maxL_is (y :: l) m h (fun z hz => h2 z (List.mem_cons_of_mem _ hz))
      show max x (maxL (y :: l)) = m
      omega
theorem minL_map {l : List (Int × Int)} {g : Int × Int → Int} {m : Int × Int} (h : m ∈ l) (h2 : ∀ q ∈ l, g m ≤ g q) : minL (l.map g) = g m :=
  minL_is _ _ (List.mem_map_of_mem h) (fun x hx => by obtain ⟨q, hq, rfl⟩ := List.mem_map.1 hx; exact h2 q hq)
theorem maxL_map {l : List (Int × Int)} {g : Int × Int → Int} {m : Int × Int} (h : m ∈ l) (h2 : ∀ q ∈ l, g q ≤ g m) : maxL (l.map g) = g m :=
  maxL_is _ _ (List.mem_map_of_mem h) (fun x hx => by obtain ⟨q, hq, rfl⟩ := List.mem_map.1 hx; exact h2 q hq)
/-- one that is 16 at least -/
def up16 (n : Int) : Int := if n > 16 then n else 16
/-- the info of pieces -/
def ofI (r c d : Int) (s : List Nat) (l : List (Int × Int)) : Nf :=
  if l = [] then ⟨r, c, d, 16, 16, 0, 0, 0, s⟩
  else ⟨r, c, d, up16 (minL ((l.take (max 1 (l.length - 1))).map (·.1))), up16 (maxL (l.map (·.1))), toldV (minL (l.map (·.2))), toldV (maxL (l.map (·.2))), sumB l, s⟩

abbrev zC : Array Value := #[.int .i64 0, .int .i64 0, .int .i64 0, .int .i64 0, .int .i64 0, .int .i64 0, .int .i64 0, .int .i64 0, .int .u8 0, .int .u8 0, .int .u8 0, .int .u8 0, .int .u8 0, .int .u8 0, .int .u8 0, .int .u8 0, .int .u8 0, .int .u8 0, .int .u8 0, .int .u8 0, .int .u8 0, .int .u8 0, .int .u8 0, .int .u8 0]
theorem zC_nf : zC = nfc nf0 := rfl
def OfR (w : World) (i : Nf) (e : Ending) (w' : World) : Prop := e = .returned (.agg (nfc i)) ∧ Only Nix w w'
theorem box_setRow {w : World} {b : Nat} {t : TypeId} {cs : Array Value} (h : Box w b t cs) (cs' : Array Value) : Box (w.setRow b cs') b t cs' ∧ Only (Just b) w (w.setRow b cs') :=
  ⟨setRow_heap w b cs cs' t (0, 0) h, ⟨rfl, rfl, rfl, by simp, fun k _ hk => setRow_other w b k cs' hk⟩⟩
/-- an info stored whole -/
theorem wpList_store_info {w : World} {ops : Array Oper} {rest : List Oper} {o : Oper} {a : Act} {Q : Exit → Act → World → Prop} (hg : o.guard = none) (p x : Operand) (hop : o.op = Op.store 26 p x) (hd : o.dst = none)
    (b : Nat) (i j : Nf) (hp : a.eval p = .pointer (some ⟨b, 0, none⟩)) (hx : a.eval x = .agg (nfc i)) (hB : Box w b 26 (nfc j)) (hi : SumOk i.s) (hj : SumOk j.s)
    (h : ∀ w', Box w' b 26 (nfc i) → Only (Just b) w w' → wpList Try.prog ops Q rest a w') : wpList Try.prog ops Q (o :: rest) a w := by
  refine wpList_plain hg fun K hK => ?_
  obtain ⟨h2, h3⟩ := box_setRow hB (nfc i)
  have hr := run_storeVar_row (P := Try.prog) w b 26 26 (nfc j) (nfc i) hB (by rw [nfc_size hi]; exact Try.size_info) (by rw [nfc_size hi, nfc_size hj]) (nfc_one i)
  unfold Oper.wp execOp
  simp only [hop, Instr.storeAt, Instr.sureAddr, Sem.run_bind, Sem.run_pure, Result.andThen_ok, hp, hx, hr]
  have := hK (a.put o.dst undef) (w.setRow b (nfc i)) (by rw [hd]; exact h _ h2 h3)
  exact this
/-- .. loaded whole -/
theorem wpList_load_info {w : World} {ops : Array Oper} {rest : List Oper} {o : Oper} {a : Act} {Q : Exit → Act → World → Prop} (hg : o.guard = none) (x : Operand) (ho : o.op = .load 26 x)
    (b : Nat) (i : Nf) (hx : a.eval x = .pointer (some ⟨b, 0, none⟩)) (hB : Box w b 26 (nfc i)) (hi : SumOk i.s)
    (h : wpList Try.prog ops Q rest (a.put o.dst (.agg (nfc i))) w) : wpList Try.prog ops Q (o :: rest) a w :=
  wpList_load_row hg _ x ho b hx _ _ (0, 0) _ hB Try.underlying26 rfl (by rw [nfc_size hi]; exact Try.size_info) h
theorem sum0_ok : SumOk zS := by decide
theorem results_info {fn : Func} {p : Tmp} (h : fn.results = #[.cell p 26]) (tmps : Array Value) (w : World) (g : Nat) (i : Nf) (hi : SumOk i.s) (hp : tmps.getD p undef = .pointer (some ⟨g, 0, none⟩)) (hg : Box w g 26 (nfc i)) :
    (results fn tmps).run Try.prog w = .ok (.agg (nfc i)) w := results_cell_row h tmps w g _ _ (0, 0) _ hp hg Try.underlying26 rfl (by rw [nfc_size hi]; exact Try.size_info)
set_option maxRecDepth 100000 in
set_option maxHeartbeats 4000000 in
theorem of_any {w : World} {v : Value} {l : List (Int × Int)} (r c d : Int) {s : List Nat} (hs : SumOk s) (hv : PSrc w v l) (hl : Ok l) :
    Calls Try.prog 21 #[.agg #[iv r, iv c, iv d], .agg (s.map byt).toArray, v] w fun e w' => OfR w (ofI r c d s l) e w' := by
  obtain ⟨A, k, rfl⟩ := hv.slice
  obtain ⟨S, hS⟩ : ∃ S, (s.map byt).toArray = S := ⟨_, rfl⟩
  have a1 := (Only.refl Nix w).alloc (.cells #[iv r, iv c, iv d] 23)
  have b1 := Box.new w 23 #[iv r, iv c, iv d]
  obtain ⟨W1, hW1⟩ : ∃ W1, w.alloc (.cells #[iv r, iv c, iv d] 23) = W1 := ⟨_, rfl⟩
  rw [hW1] at a1 b1
  have a2 := a1.alloc (.cells S 24)
  have b1 := b1.alloc (.cells S 24)
  have b2 := Box.new W1 24 S
  obtain ⟨W2, hW2⟩ : ∃ W2, W1.alloc (.cells S 24) = W2 := ⟨_, rfl⟩
  rw [hW2] at a2 b1 b2
  have a3 := a2.alloc (.cells zC 26)
  have b1 := b1.alloc (.cells zC 26)
  have b2 := b2.alloc (.cells zC 26)
  have b3 := Box.new W2 26 zC
  obtain ⟨W3, hW3⟩ : ∃ W3, W2.alloc (.cells zC 26) = W3 := ⟨_, rfl⟩
  rw [hW3] at a3 b1 b2 b3
  have hl2 := b2.lt
  have hl3 := b3.lt
  have HO3 := Lib.hid a3
  have HB1 := Lib.hid b1
  have HB2 := Lib.hid b2
  have HB3 := Lib.hid b3
  have HS := Lib.hid hS
  have HSok := Lib.hid hs
  have HL := Lib.hid hl
  have HV := Lib.hid hv
  have c0 := b1.cell 0
  have c1 := b1.cell 1
  have c2 := b1.cell 2
  simp only [List.getElem?_toArray, List.getElem?_cons_zero, List.getElem?_cons_succ] at c0 c1 c2
  have hbt : Try.prog.built 26 [(0, .agg #[iv r, iv c, iv d]), (1, iv 16), (2, iv 16), (6, .agg S)] = some (nfc ⟨r, c, d, 16, 16, 0, 0, 0, s⟩) := by rw [← hS]; exact built_of r c d hs
  have HBt := Lib.hid hbt
  have HS16 : Hid (S.size = 16) := Lib.hid (by rw [← hS]; simp [hs.1])
  have HR := Lib.hid (HB3.out.alloc (.cells zC 26))
  have HW2 : Hid (w.heap.size ≤ W2.heap.size) := Lib.hid a2.size
  have hle : w.heap.size ≤ W3.heap.size := a3.size
  have hne : W2.heap.size ≠ W3.heap.size := by omega
  rw [hS]
  clear a1 a2 a3 b1 b2 b3 hS hs hbt hl hv hl2 hl3
  by_cases h0 : l = []
  · subst h0
    go_enter Try.func21, Try.ntmps21
    go_wp2_with (first
      | (refine wpList_load_row rfl 24 (.tmp 4) rfl W1.heap.size rfl 24 S (0, 0) _ HB2.out Try.underlying24 rfl (by rw [HS16.out]; exact Try.size_sum) ?_)
      | (refine wpList_build_is rfl _ _ rfl (nfc ⟨r, c, d, 16, 16, 0, 0, 0, s⟩) (by simp; exact HBt.out) ?_)
      | (refine wpList_store_info rfl (.tmp 7) (.tmp 13) rfl rfl W3.heap.size ⟨r, c, d, 16, 16, 0, 0, 0, s⟩ nf0 rfl rfl (Box.new W3 _ _) HSok.out sum0_ok ?_)
      | fail)
    intro U hBU hoU
    have HOU := Lib.hid ((HO3.out.alloc (.cells zC 26)).then hoU (fun i e => .inr (by cases e; exact hle)))
    have HRU := Lib.hid (HR.out.only hoU (fun e => hne e))
    have HBU := Lib.hid hBU
    clear hBU hoU
    go_wp2_with (first
      | (refine wpList_load_info rfl (.tmp 7) rfl W3.heap.size _ rfl HBU.out HSok.out ?_)
      | (refine wpList_store_info rfl (.tmp 6) (.tmp 17) rfl rfl W2.heap.size _ nf0 rfl rfl HRU.out HSok.out sum0_ok ?_)
      | fail)
    intro Uf hBf hof
    have HFin := Lib.hid (HOU.out.then hof (fun i e => .inr (by cases e; exact HW2.out)))
    have HBf := Lib.hid hBf
    clear hBf hof
    go_wp2
    refine bodyPost_ret (v := .agg (nfc _)) (results_info rfl _ _ W2.heap.size _ HSok.out rfl HBf.out) rfl ⟨?_, HFin.out⟩
    rfl
  · have h1 : 1 ≤ l.length := by cases l with
      | nil => exact absurd rfl h0
      | cons x q => simp
    have hsm := HV.out.small
    have hcap := HV.out.cap
    obtain ⟨ad, rfl, _, _⟩ := HV.out.at_ (k := 0) h1
    have h1i : ¬ ((l.length : Int) = 0) := by omega
    obtain ⟨M, hM⟩ : ∃ M, max 1 (l.length - 1) = M := ⟨_, rfl⟩
    have hMi : (if 1 < (l.length : Int) - 1 then (l.length : Int) - 1 else 1) = (M : Int) := by split <;> omega
    have hM1 : 1 ≤ M := by omega
    have hMn : M ≤ l.length := by omega
    have hMk : M ≤ k := by omega
    have hTl : (l.take M).length = M := by rw [List.length_take]; omega
    have HVt := Lib.hid (HV.out.take M k hMn hMk)
    have HE1 := enters_of Try.func28 (by kernel_rfl) rfl
    have HE2 := enters_of Try.func30 (by kernel_rfl) rfl
    have HC1 : Hid (∀ u, Only Nix w u → Calls Try.prog 31 #[.slice (some ad) M k, .func (.func 28) #[] #[]] u fun e w' => MnR u (l.take M) (·.1) e w') := Lib.hid (fun u hu => minF_any HE1 cmp_block (HVt.out.nix hu) (by rw [hTl]; exact hM1))
    have HC2 : Hid (∀ u, Only Nix w u → Calls Try.prog 32 #[.slice (some ad) l.length k, .func (.func 28) #[] #[]] u fun e w' => MxR u l (·.1) e w') := Lib.hid (fun u hu => maxF_any HE1 cmp_block (HV.out.nix hu) h1)
    have HC3 : Hid (∀ u, Only Nix w u → Calls Try.prog 31 #[.slice (some ad) l.length k, .func (.func 30) #[] #[]] u fun e w' => MnR u l (·.2) e w') := Lib.hid (fun u hu => minF_any HE2 cmp_bytes (HV.out.nix hu) h1)
    have HC4 : Hid (∀ u, Only Nix w u → Calls Try.prog 32 #[.slice (some ad) l.length k, .func (.func 30) #[] #[]] u fun e w' => MxR u l (·.2) e w') := Lib.hid (fun u hu => maxF_any HE2 cmp_bytes (HV.out.nix hu) h1)
    have HC5 : Hid (∀ u, Only Nix w u → Calls Try.prog 34 #[.slice (some ad) l.length k] u fun e w' => e = .returned (iv (sumB l)) ∧ Only Nix u w') := Lib.hid (fun u hu => samples_any (HV.out.nix hu) HL.out)
    have HI : Hid (ofI r c d s l = ⟨r, c, d, up16 (minL ((l.take M).map (·.1))), up16 (maxL (l.map (·.1))), toldV (minL (l.map (·.2))), toldV (maxL (l.map (·.2))), sumB l, s⟩) := Lib.hid (by rw [← hM]; exact if_neg h0)
    have hfd0 := run_field_0
    have hfd1 := run_field_1
    obtain ⟨T, hT⟩ : ∃ T, sumB l = T := ⟨_, rfl⟩
    rw [hT] at HC5 HI
    clear h0 HE1 HE2 hM hTl hT
    go_enter Try.func21, Try.ntmps21
    go_wp2_with (first
      | (refine wpList_load_row rfl 24 (.tmp 4) rfl W1.heap.size rfl 24 S (0, 0) _ HB2.out Try.underlying24 rfl (by rw [HS16.out]; exact Try.size_sum) ?_)
      | (refine wpList_build_is rfl _ _ rfl (nfc ⟨r, c, d, 16, 16, 0, 0, 0, s⟩) (by simp; exact HBt.out) ?_)
      | (refine wpList_store_info rfl (.tmp 7) (.tmp 13) rfl rfl W3.heap.size ⟨r, c, d, 16, 16, 0, 0, 0, s⟩ nf0 rfl rfl (Box.new W3 _ _) HSok.out sum0_ok ?_)
      | fail)
    intro U hBU hoU
    have HOU := Lib.hid ((HO3.out.alloc (.cells zC 26)).then hoU (fun i e => .inr (by cases e; exact hle)))
    have HRU := Lib.hid (HR.out.only hoU (fun e => hne e))
    have HBU := Lib.hid hBU
    clear hBU hoU
    go_wp2_with fail
    refine (HC1.out _ HOU.out).mono ?_
    rintro e u1 ⟨⟨m1, rfl, hm1, hk1⟩, o1⟩
    have HV1 : Hid (up16 (minL ((l.take M).map (·.1))) = up16 m1.1) := Lib.hid (congrArg up16 (minL_map (g := (·.1)) hm1 hk1))
    obtain ⟨V1, hV1⟩ : ∃ V, up16 m1.1 = V := ⟨_, rfl⟩
    rw [hV1] at HV1
    have hi1 : (if 16 < m1.1 then m1.1 else 16) = V1 := hV1
    clear hV1 hm1 hk1
    have hb1 := HBU.out.only o1 (fun e => e)
    have hr1 := HRU.out.only o1 (fun e => e)
    have hq1 := HOU.out.trans o1
    have hc1 := (hb1.cell 3).trans (nfc_3 _)
    have hf1 := hb1.frozen 3
    have HBn1 := Lib.hid (show Box _ _ _ (nfc ⟨r, c, d, V1, 16, 0, 0, 0, s⟩) from hb1.put 3 (iv V1))
    have HRn1 := Lib.hid (hr1.off (p := ⟨W3.heap.size, 3, none⟩) hne (iv V1))
    have HOn1 := Lib.hid (hq1.setCell (p := ⟨W3.heap.size, 3, none⟩) (.inr hle) (iv V1))
    obtain ⟨U1, hU1⟩ : ∃ X, u1.setCell ⟨W3.heap.size, 3, none⟩ (iv V1) = X := ⟨_, rfl⟩
    rw [hU1] at HBn1 HRn1 HOn1
    clear hb1 hr1 hq1 o1
    go_wp2_with fail
    refine (HC2.out _ HOn1.out).mono ?_
    rintro e u2 ⟨⟨m2, rfl, hm2, hk2⟩, o2⟩
    have HV2 : Hid (up16 (maxL (l.map (·.1))) = up16 m2.1) := Lib.hid (congrArg up16 (maxL_map (g := (·.1)) hm2 hk2))
    obtain ⟨V2, hV2⟩ : ∃ V, up16 m2.1 = V := ⟨_, rfl⟩
    rw [hV2] at HV2
    have hi2 : (if 16 < m2.1 then m2.1 else 16) = V2 := hV2
    clear hV2 hm2 hk2
    have hb2 := HBn1.out.only o2 (fun e => e)
    have hr2 := HRn1.out.only o2 (fun e => e)
    have hq2 := HOn1.out.trans o2
    have hc2 := (hb2.cell 4).trans (nfc_4 _)
    have hf2 := hb2.frozen 4
    have HBn2 := Lib.hid (show Box _ _ _ (nfc ⟨r, c, d, V1, V2, 0, 0, 0, s⟩) from hb2.put 4 (iv V2))
    have HRn2 := Lib.hid (hr2.off (p := ⟨W3.heap.size, 4, none⟩) hne (iv V2))
    have HOn2 := Lib.hid (hq2.setCell (p := ⟨W3.heap.size, 4, none⟩) (.inr hle) (iv V2))
    obtain ⟨U2, hU2⟩ : ∃ X, u2.setCell ⟨W3.heap.size, 4, none⟩ (iv V2) = X := ⟨_, rfl⟩
    rw [hU2] at HBn2 HRn2 HOn2
    clear hb2 hr2 hq2 o2
    go_wp2_with fail
    refine (HC3.out _ HOn2.out).mono ?_
    rintro e u3 ⟨⟨m3, rfl, hm3, hk3⟩, o3⟩
    have HV3 : Hid (toldV (minL (l.map (·.2))) = toldV m3.2) := Lib.hid (congrArg toldV (minL_map (g := (·.2)) hm3 hk3))
    obtain ⟨V3, hV3⟩ : ∃ V, toldV m3.2 = V := ⟨_, rfl⟩
    rw [hV3] at HV3
    have HTd3 := Lib.hid (told_any u3 m3.2)
    rw [hV3] at HTd3
    clear hV3 hm3 hk3
    have hb3 := HBn2.out.only o3 (fun e => e)
    have hr3 := HRn2.out.only o3 (fun e => e)
    have hq3 := HOn2.out.trans o3
    have hc3 := (hb3.cell 5).trans (nfc_5 _)
    have hf3 := hb3.frozen 5
    have HBn3 := Lib.hid (show Box _ _ _ (nfc ⟨r, c, d, V1, V2, V3, 0, 0, s⟩) from hb3.put 5 (iv V3))
    have HRn3 := Lib.hid (hr3.off (p := ⟨W3.heap.size, 5, none⟩) hne (iv V3))
    have HOn3 := Lib.hid (hq3.setCell (p := ⟨W3.heap.size, 5, none⟩) (.inr hle) (iv V3))
    obtain ⟨U3, hU3⟩ : ∃ X, u3.setCell ⟨W3.heap.size, 5, none⟩ (iv V3) = X := ⟨_, rfl⟩
    rw [hU3] at HBn3 HRn3 HOn3
    clear hb3 hr3 hq3 o3
    go_wp2_with fail
    refine (HTd3.out).mono ?_
    rintro e w3 ⟨rfl, rfl⟩
    go_wp2_with fail
    refine (HC4.out _ HOn3.out).mono ?_
    rintro e u4 ⟨⟨m4, rfl, hm4, hk4⟩, o4⟩
    have HV4 : Hid (toldV (maxL (l.map (·.2))) = toldV m4.2) := Lib.hid (congrArg toldV (maxL_map (g := (·.2)) hm4 hk4))
    obtain ⟨V4, hV4⟩ : ∃ V, toldV m4.2 = V := ⟨_, rfl⟩
    rw [hV4] at HV4
    have HTd4 := Lib.hid (told_any u4 m4.2)
    rw [hV4] at HTd4
    clear hV4 hm4 hk4
    have hb4 := HBn3.out.only o4 (fun e => e)
    have hr4 := HRn3.out.only o4 (fun e => e)
    have hq4 := HOn3.out.trans o4
    have hc4 := (hb4.cell 6).trans (nfc_6 _)
    have hf4 := hb4.frozen 6
    have HBn4 := Lib.hid (show Box _ _ _ (nfc ⟨r, c, d, V1, V2, V3, V4, 0, s⟩) from hb4.put 6 (iv V4))
    have HRn4 := Lib.hid (hr4.off (p := ⟨W3.heap.size, 6, none⟩) hne (iv V4))
    have HOn4 := Lib.hid (hq4.setCell (p := ⟨W3.heap.size, 6, none⟩) (.inr hle) (iv V4))
    obtain ⟨U4, hU4⟩ : ∃ X, u4.setCell ⟨W3.heap.size, 6, none⟩ (iv V4) = X := ⟨_, rfl⟩
    rw [hU4] at HBn4 HRn4 HOn4
    clear hb4 hr4 hq4 o4
    go_wp2_with fail
    refine (HTd4.out).mono ?_
    rintro e w4 ⟨rfl, rfl⟩
    go_wp2_with fail
    refine (HC5.out _ HOn4.out).mono ?_
    rintro e u5 ⟨rfl, o5⟩
    obtain ⟨V5, hV5⟩ : ∃ V, T = V := ⟨_, rfl⟩
    subst hV5
    have hb5 := HBn4.out.only o5 (fun e => e)
    have hr5 := HRn4.out.only o5 (fun e => e)
    have hq5 := HOn4.out.trans o5
    have hc5 := (hb5.cell 7).trans (nfc_7 _)
    have hf5 := hb5.frozen 7
    have HBn5 := Lib.hid (show Box _ _ _ (nfc ⟨r, c, d, V1, V2, V3, V4, T, s⟩) from hb5.put 7 (iv T))
    have HRn5 := Lib.hid (hr5.off (p := ⟨W3.heap.size, 7, none⟩) hne (iv T))
    have HOn5 := Lib.hid (hq5.setCell (p := ⟨W3.heap.size, 7, none⟩) (.inr hle) (iv T))
    obtain ⟨U5, hU5⟩ : ∃ X, u5.setCell ⟨W3.heap.size, 7, none⟩ (iv T) = X := ⟨_, rfl⟩
    rw [hU5] at HBn5 HRn5 HOn5
    clear hb5 hr5 hq5 o5
    go_wp2_with (first
      | (refine wpList_load_info rfl (.tmp 7) rfl W3.heap.size _ rfl HBn5.out HSok.out ?_)
      | (refine wpList_store_info rfl (.tmp 6) (.tmp 51) rfl rfl W2.heap.size _ nf0 rfl rfl HRn5.out HSok.out sum0_ok ?_)
      | fail)
    intro Uf hBf hof
    have HFin := Lib.hid (HOn5.out.then hof (fun i e => .inr (by cases e; exact HW2.out)))
    have HBf := Lib.hid hBf
    clear hBf hof
    go_wp2
    refine bodyPost_ret (v := .agg (nfc _)) (results_info rfl _ _ W2.heap.size _ HSok.out rfl HBf.out) rfl ⟨?_, HFin.out⟩
    rw [HI.out, HV1.out, HV2.out, HV3.out, HV4.out]
end Go.Proofs.Ytpgcaijanmpanaa
