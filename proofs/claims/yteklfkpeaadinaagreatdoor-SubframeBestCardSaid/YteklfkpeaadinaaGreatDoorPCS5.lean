/-
  Package subframe: prediction.
-/
import Derived.Test.YteklfkpeaadinaaGreatDoorPCS4
namespace Go.Proofs.YteklfkpeaadinaaGreatDoor.S
open Go.RowKit
open K (linV fx)
/-- what a prediction answers -/
def PreR (P S : Int) (C : List Int) (w : World) (e : Ending) (w' : World) : Prop := ∃ A n c, e = .returned (linV P S (.slice A n c)) ∧ ISrc w' (.slice A n c) C ∧ Only Nix w w'
set_option maxHeartbeats 2000000 in
theorem prediction_2 {w : World} (q : Nat) (hq : q ≤ 4) (wd lp ls : Int) (Ac : Option Addr) (nc cc : Nat) (m ro : Int) (Ap Ab : Option Addr) (np cp nb cb : Nat) :
    Calls Tryz.prog 91 #[spV 2 (q : Int) wd lp ls (.slice Ac nc cc) m ro (.slice Ap np cp) (.slice Ab nb cb)] w fun e w' => PreR 4 0 (fx q) w e w' := by
  have HX : Hid (∀ u, Calls Tryz.prog 113 #[iv q] u fun e w' => K.FixN u q e w') := Lib.hid (fun u => K.fixed_new u q hq)
  go_enter Tryz.func91, Tryz.ntmps91
  go_wp2_with fail
  have hO := ((Only.refl Nix w).alloc (.cells #[iv 2, iv (q : Int), iv wd, iv lp, iv ls, .slice Ac nc cc, iv m, iv ro, .slice Ap np cp, .slice Ab nb cb] 28)).alloc (.cells #[Value.int .i64 0, Value.int .i64 0, .slice none 0 0] 24)
  have hB := Box.new (w.alloc (.cells #[iv 2, iv (q : Int), iv wd, iv lp, iv ls, .slice Ac nc cc, iv m, iv ro, .slice Ap np cp, .slice Ab nb cb] 28)) 24 #[Value.int .i64 0, Value.int .i64 0, .slice none 0 0]
  rw [World.size_alloc] at hB
  generalize (w.alloc (.cells #[iv 2, iv (q : Int), iv wd, iv lp, iv ls, .slice Ac nc cc, iv m, iv ro, .slice Ap np cp, .slice Ab nb cb] 28)).alloc (.cells #[Value.int .i64 0, Value.int .i64 0, .slice none 0 0] 24) = W at *
  refine (HX.out W).mono ?_
  rintro e w1 ⟨g, c, hg, rfl, hs, ho⟩
  have HO := Lib.hid (hO.trans ho)
  have hB1 := hB.only ho (fun e => e)
  have hsz := hB1.lt
  have hgW := hB.lt
  have hne : ¬ w.heap.size + 1 = w1.heap.size := by omega
  have f0 := hB1.frozen 0
  have f1 := hB1.frozen 1
  have f2 := hB1.frozen 2
  have d0 := hB1.cell 0
  have d1 := hB1.cell 1
  have d2 := hB1.cell 2
  simp only [List.getElem?_toArray, List.getElem?_cons_zero, List.getElem?_cons_succ] at d0 d1 d2
  have hF : Only (Just (w.heap.size + 1)) w1 ((((w1.setCell ⟨w.heap.size + 1, 0, none⟩ (iv 4)).setCell ⟨w.heap.size + 1, 1, none⟩ (iv 0)).setCell ⟨w.heap.size + 1, 2, none⟩ (.slice (some ⟨g, 0, none⟩) q c)).alloc (.cells #[iv 4, iv 0, .slice (some ⟨g, 0, none⟩) q c] 24)) := by
    refine Only.alloc (Only.setCell (Only.setCell (Only.setCell (Only.refl (Just (w.heap.size + 1)) w1) (Or.inl ?_) _) (Or.inl ?_) _) (Or.inl ?_) _) _ <;> exact rfl
  have hs2 := hs.only hF (fun i _ hi ad n c e hn => by
    cases hi
    injection e with e _ _
    injection e with e
    rw [← e]
    show g ≠ w.heap.size + 1
    omega)
  have HS := Lib.hid hs2
  have HF := Lib.hid (HO.out.then hF (fun i e => .inr (by cases e; omega)))
  have hb := (((hB1.put 0 (iv 4)).put 1 (iv 0)).put 2 (.slice (some ⟨g, 0, none⟩) q c)).alloc (.cells #[iv 4, iv 0, .slice (some ⟨g, 0, none⟩) q c] 24)
  have y0 := hb.cell 0
  have y1 := hb.cell 1
  have y2 := hb.cell 2
  simp at y0 y1 y2
  clear hb hs ho hO hB hB1 HX hF hs2
  go_wp2
  refine bodyPost_ret (v := linV 4 0 (.slice (some ⟨g, 0, none⟩) q c)) ?_ rfl ?_
  · simp [results, Tryz.f91, go_sem, y0, y1, y2]
  · exact ⟨_, _, _, rfl, HS.out, HF.out⟩
set_option maxHeartbeats 2000000 in
theorem prediction_3 {w : World} (o wd lp ls : Int) (Ac : Option Addr) (nc cc : Nat) (m ro : Int) (Ap Ab : Option Addr) (np cp nb cb : Nat) (cs : List Int) (hcs : ISrc w (.slice Ac nc cc) cs) :
    Calls Tryz.prog 91 #[spV 3 o wd lp ls (.slice Ac nc cc) m ro (.slice Ap np cp) (.slice Ab nb cb)] w fun e w' => PreR lp ls cs w e w' := by
  have HC := Lib.hid hcs
  clear hcs
  go_enter Tryz.func91, Tryz.ntmps91
  go_wp2
  have hF : Only Nix w ((w.alloc (.cells #[iv 3, iv o, iv wd, iv lp, iv ls, .slice Ac nc cc, iv m, iv ro, .slice Ap np cp, .slice Ab nb cb] 28)).alloc (.cells #[iv lp, iv ls, .slice Ac nc cc] 24)) := ((Only.refl Nix w).alloc _).alloc _
  have hb := Box.new (w.alloc (.cells #[iv 3, iv o, iv wd, iv lp, iv ls, .slice Ac nc cc, iv m, iv ro, .slice Ap np cp, .slice Ab nb cb] 28)) 24 #[iv lp, iv ls, .slice Ac nc cc]
  rw [World.size_alloc] at hb
  have y0 := hb.cell 0
  have y1 := hb.cell 1
  have y2 := hb.cell 2
  simp at y0 y1 y2
  refine bodyPost_ret (v := linV lp ls (.slice Ac nc cc)) ?_ rfl ?_
  · simp [results, Tryz.f91, go_sem]
  · exact ⟨_, _, _, rfl, HC.out.nix hF, hF⟩
end Go.Proofs.YteklfkpeaadinaaGreatDoor.S
