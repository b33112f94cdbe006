/-
  Is a sum known; the chapter's example.
-/
import Derived.Test.YtpgcaijanmpanaaID
namespace Go.Proofs.Ytpgcaijanmpanaa
open Go.RowKit Go.Shelf

theorem range_sum {w : World} {b : Nat} {i : Nf} (h : Box w b 26 (nfc i)) (hs : SumOk i.s) : w.rangeAt b 8 (i.s.map byt) := by
  have := World.rangeAt_of_block h 8 16
  rw [nfc_sum hs] at this
  simpa using this
/-- an info's sum loaded -/
theorem wpList_load_sum {w : World} {ops : Array Oper} {rest : List Oper} {o : Oper} {a : Act} {Q : Exit → Act → World → Prop} (hg : o.guard = none) (x : Operand) (ho : o.op = .load 24 x)
    (b : Nat) (i : Nf) (hx : a.eval x = .pointer (some ⟨b, 8, none⟩)) (hB : Box w b 26 (nfc i)) (hi : SumOk i.s)
    (h : wpList Try.prog ops Q rest (a.put o.dst (.agg (i.s.map byt).toArray)) w) : wpList Try.prog ops Q (o :: rest) a w :=
  wpList_load_mid hg _ x ho b 8 hx (i.s.map byt) _ (range_sum hB hi) Try.underlying24 rfl (by rw [List.length_map, hi.1]; exact Try.size_sum) h
/-- an info loaded behind a guard that says yes -/
theorem wpList_load_info_g {w : World} {ops : Array Oper} {rest : List Oper} {o : Oper} {a : Act} {Q : Exit → Act → World → Prop} (j s : Nat) (g : Bool) (hg : o.guard = some (j, g)) (hd : (ops[j]?.bind fun x => x.dst) = some s) (ht : a.tmps[s]? = some (.bool g)) (x : Operand) (ho : o.op = .load 26 x)
    (b : Nat) (i : Nf) (hx : a.eval x = .pointer (some ⟨b, 0, none⟩)) (hB : Box w b 26 (nfc i)) (hi : SumOk i.s)
    (h : wpList Try.prog ops Q rest (a.put o.dst (.agg (nfc i))) w) : wpList Try.prog ops Q (o :: rest) a w :=
  BigFrame.wpList_want (wanted_yes hg hd ht) fun _ hK => wp_load_row _ x ho b hx _ _ (0, 0) _ hB Try.underlying26 rfl (by rw [nfc_size hi]; exact Try.size_info) (hK _ _ h)
set_option maxHeartbeats 1000000 in
theorem known_any {w : World} (i : Nf) (hi : SumOk i.s) : Calls Try.prog 16 #[.agg (nfc i)] w fun e w' => e = .returned (.bool (!decide (i.s = zS))) ∧ Only Nix w w' := by
  have HO := Lib.hid ((Only.refl Nix w).alloc (.cells (nfc i) 26))
  have HB := Lib.hid (Box.new w 26 (nfc i))
  have HN := run_neq_sum i.s zS hi.1 (by decide)
  have HG := guard_sum
  obtain ⟨C, hC⟩ : ∃ C, nfc i = C := ⟨_, rfl⟩
  rw [hC] at HO HB ⊢
  have HC := Lib.hid hC
  have HI := Lib.hid hi
  clear hC hi
  obtain ⟨B, hB⟩ : ∃ B, (!decide (i.s = zS)) = B := ⟨_, rfl⟩
  rw [hB] at HN ⊢
  obtain ⟨S, hS⟩ : ∃ S, (i.s.map byt).toArray = S := ⟨_, rfl⟩
  obtain ⟨Z, hZ⟩ : ∃ Z, (zS.map byt).toArray = Z := ⟨_, rfl⟩
  have HZ := Lib.hid (built_sum0.trans (congrArg some hZ))
  rw [hS, hZ] at HN
  have HSs := Lib.hid hS
  clear hB hS hZ
  go_enter Try.func16, Try.ntmps16
  go_wp2_with (first
    | (refine wpList_load_sum rfl (.tmp 3) rfl w.heap.size i rfl (by rw [HC.out]; exact HB.out) HI.out ?_; rw [HSs.out])
    | (refine wpList_build_is rfl _ _ rfl Z (by simp; exact HZ.out) ?_)
    | fail)
  go_ret
  exact ⟨rfl, HO.out⟩
def exL : List (Int × Int) := [(64, 100), (20, 50)]
theorem ex_ok : Ok exL := by unfold Ok; exact ⟨by decide, by decide⟩
theorem ex_of : ofI 44100 2 16 zS exL = ⟨44100, 2, 16, 64, 64, 50, 100, 84, zS⟩ := by decide
theorem ex_lit (w : World) : PSrc (w.alloc (.cells #[iv 64, iv 100, iv 20, iv 50] 49)) (.slice (some ⟨w.heap.size, 0, none⟩) 2 2) exL := by
  refine PSrc.of_cells rfl (Nat.le_refl _) (fun j hj => ?_) (by decide) (by decide)
  have hb := Box.new w 49 #[iv 64, iv 100, iv 20, iv 50]
  match j, hj with
  | 0, _ => exact ⟨hb.cell 0, hb.cell 1⟩
  | 1, _ => exact ⟨hb.cell 2, hb.cell 3⟩
set_option maxRecDepth 100000 in
set_option maxHeartbeats 4000000 in
theorem awake_any (w : World) : Calls Try.prog 13 #[] w fun e w' => e = .returned (.bool true) ∧ Only Nix w w' := by
  have HS := Lib.hid (ex_lit w)
  have HO1 := Lib.hid ((Only.refl Nix w).alloc (.cells #[iv 64, iv 100, iv 20, iv 50] 49))
  obtain ⟨W1, hW1⟩ : ∃ W1, w.alloc (.cells #[iv 64, iv 100, iv 20, iv 50] 49) = W1 := ⟨_, rfl⟩
  rw [hW1] at HS HO1
  have HOf := of_any 44100 2 16 sum0_ok HS.out ex_ok
  rw [ex_of] at HOf
  have HK : Hid (∀ u, Calls Try.prog 16 #[.agg (nfc ⟨44100, 2, 16, 64, 64, 50, 100, 84, zS⟩)] u fun e w' => e = .returned (.bool false) ∧ Only Nix u w') := Lib.hid (fun u => by
    have := known_any (w := u) ⟨44100, 2, 16, 64, 64, 50, 100, 84, zS⟩ sum0_ok
    simpa using this)
  have HE := run_eql_info ⟨44100, 2, 16, 64, 64, 50, 100, 84, zS⟩ sum0_ok
  have HG := guard_info
  have HBx := Lib.hid built_ex
  have HS0 : Hid (SumOk (⟨44100, 2, 16, 64, 64, 50, 100, 84, zS⟩ : Nf).s) := Lib.hid sum0_ok
  generalize (⟨44100, 2, 16, 64, 64, 50, 100, 84, zS⟩ : Nf) = X at *
  obtain ⟨Z, hZ⟩ : ∃ Z, (zS.map byt).toArray = Z := ⟨_, rfl⟩
  have HZ := Lib.hid (built_sum0.trans (congrArg some hZ))
  rw [hZ] at HOf
  have HF := Lib.hid HOf
  clear HOf hZ HS
  go_enter Try.func13, Try.ntmps13
  go_wp2_with (first
    | (refine wpList_build_is rfl _ _ rfl Z (by simp; exact HZ.out) ?_)
    | fail)
  refine (HF.out).mono ?_
  rintro e w2 ⟨rfl, o2⟩
  have HO2 := Lib.hid ((HO1.out.trans o2).alloc (.cells zC 26))
  have hle : w.heap.size ≤ w2.heap.size := (HO1.out.trans o2).size
  clear o2 HF
  go_wp2_with (first
    | (refine wpList_store_info rfl (.tmp 1) (.tmp 7) rfl rfl w2.heap.size X nf0 rfl rfl (Box.new w2 _ _) HS0.out sum0_ok ?_)
    | fail)
  intro U hBU hoU
  have HBU := Lib.hid hBU
  have HOU := Lib.hid (HO2.out.then hoU (fun i e => .inr (by cases e; exact hle)))
  clear hBU hoU HO2 hle
  go_wp2_with (first
    | (refine wpList_load_info rfl (.tmp 1) rfl w2.heap.size X rfl HBU.out HS0.out ?_)
    | (refine wpList_build_is rfl _ _ rfl (nfc X) (by simp; exact HBx.out) ?_)
    | (refine wpList_load_info_g 6 14 true rfl rfl rfl (.tmp 1) rfl w2.heap.size X rfl HBU.out HS0.out ?_)
    | fail)
  refine (HK.out _).mono ?_
  rintro e w3 ⟨rfl, o3⟩
  have HFin := Lib.hid (HOU.out.trans o3)
  clear o3 HOU HBU HK HE HG HBx HS0
  go_wp2
  go_ret
  exact ⟨rfl, HFin.out⟩
end Go.Proofs.Ytpgcaijanmpanaa
