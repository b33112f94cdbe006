/-
  Pictures that came in, opened.
-/
import Derived.Test.YtphpciglpnbblaaDoorTOB
import Derived.Test.YtphpciglpnbblaaDoorTPA
namespace Go.Proofs.YtphpciglpnbblaaDoor
open Go.ChangeShapes Go.WideShapes Go.ChangeAt Go.RowKit Go.Joins Go.Deep

section
variable {H : Type} {enc : TypeId × Value → H} {w : World}
/-- bytes within something that came in -/
theorem open_bytes1 {fuel : Nat} {c : Value} {y : DataW H × List MemPlace} (hf : DataW.trod enc Tryd.prog w 0 (fun _ => true) true fuel 25 [c] = some y) (hs : ∀ el sp, y.1 = .slice el sp → el.length + sp.length ≤ 140737488355328) : ∃ bs : List Nat, CSrc w c bs := by
  rcases open_ints Tryd.underlying25 Tryd.underlying5 (by kernel_rfl) hf with ⟨hcs, _⟩ | ⟨x, l, cc, zs, hcs, _, hl, hm, hz, hx, hcell, hwz⟩
  · simp at hcs
    subst hcs
    exact ⟨[], CSrc.nil w⟩
  · simp at hcs
    subst hcs
    have hz' : zs.length = cc := by simpa using hz
    rw [hx] at hs
    have hsm := hs _ _ rfl
    simp only [lits, List.length_map, List.length_take, List.length_drop] at hsm
    have hln : ((zs.take l).map Int.toNat).length = l := by rw [List.length_map, List.length_take, Nat.min_eq_left (by omega)]
    refine ⟨(zs.take l).map Int.toNat, ⟨⟨⟨some x, cc, by rw [hln], fun j hj => ⟨x, rfl, ?_⟩⟩, by omega, fun y hy => ?_⟩, fun _ _ _ e => by injection e with _ e2 e3; omega⟩⟩
    · rw [hln] at hj
      have hjz : j < zs.length := by omega
      obtain ⟨k, hk, _⟩ := byte_of_wf (hwz zs[j] (List.getElem_mem hjz))
      rw [hcell j hjz]
      simp only [List.getD_eq_getElem?_getD, List.getElem?_eq_getElem hjz, Option.getD_some, List.getElem_map, List.getElem_take, byt]
      rw [hk]
      simp
    · obtain ⟨z, hzm, rfl⟩ := List.mem_map.1 hy
      obtain ⟨k, rfl, hk⟩ := byte_of_wf (hwz z (List.mem_of_mem_take hzm))
      simpa using hk
theorem open_bytesC {ts : List TypeId} {ds : List (DataW H)} (hsz : (DataW.weightsEach Tryd.prog ts ds).all (· ≤ reachBytes) = true) {j : Nat} {A : Option Addr} {len cap : Nat} {d : DataW H} {p : List MemPlace} (ht : ts[j]? = some 25) (hd : ds[j]? = some d)
    (h : DataW.Trod enc Tryd.prog w 0 (fun _ => true) true 25 (.slice A len cap) d p) : ∃ bs : List Nat, CSrc w (.slice A len cap) bs := by
  obtain ⟨bs, hs, hc⟩ := open_bytes hsz ht hd h
  exact ⟨bs, hs, fun _ _ _ e => by injection e with _ e2 e3; omega⟩
set_option maxRecDepth 100000 in
set_option maxHeartbeats 4000000 in
theorem open_picture {ts : List TypeId} {ds : List (DataW H)} (hsz : (DataW.weightsEach Tryd.prog ts ds).all (· ≤ reachBytes) = true) {j : Nat} {v : Value} {d : DataW H} {p : List MemPlace} (ht : ts[j]? = some 40) (hd : ds[j]? = some d)
    (hok : Value.okWide Tryd.prog w .any 0 40 v) (h : DataW.Trod enc Tryd.prog w 0 (fun _ => true) true 40 v d p) :
    ∃ (P : Pc) (x : Value) (bs : List Nat), v = pcV P x ∧ CSrc w x bs := by
  have hc0 : Tryd.prog.cellsOf 9 = 1 := by kernel_rfl
  have hc1 : Tryd.prog.cellsOf 3 = 1 := by kernel_rfl
  have hc3 : Tryd.prog.cellsOf 25 = 1 := by kernel_rfl
  have hc2 : Tryd.prog.cellsOf 40 = 8 := by kernel_rfl
  obtain ⟨cs, rfl, hs2⟩ := okWide_struct Tryd.underlying40 hok
  obtain ⟨fuel, hf⟩ := h
  obtain ⟨xs, nn, _, hx, hl, hlen, hft⟩ := DataW.trod_struct Tryd.underlying40 hf
  obtain ⟨l⟩ := cs
  match l, hs2.trans hc2 with
  | [x0, x1, x2, x3, x4, x5, x6, x7], _ =>
    match xs, hlen with
    | [y0, y1, y2, y3, y4, y5, y6, y7], _ =>
      have t0 := hft 0 _ rfl
      have t1 := hft 1 _ rfl
      have t2 := hft 2 _ rfl
      have t3 := hft 3 _ rfl
      have t4 := hft 4 _ rfl
      have t5 := hft 5 _ rfl
      have t6 := hft 6 _ rfl
      have t7 := hft 7 _ rfl
      simp only [Value.cells, List.getElem?_cons_zero, List.getElem?_cons_succ] at t0 t1 t2 t3 t4 t5 t6 t7
      simp only [Prod.mk.injEq] at hx
      have hd1 : d = .agg [y0.1, y1.1, y2.1, y3.1, y4.1, y5.1, y6.1, y7.1] := hx.1
      have hin : (DataW.weightsEach Tryd.prog [3, 9, 9, 3, 3, 3, 3, 25] [y0.1, y1.1, y2.1, y3.1, y4.1, y5.1, y6.1, y7.1]).all (· ≤ reachBytes) = true := by
        rw [List.all_eq_true]
        intro n hn
        refine List.all_eq_true.1 hsz n (DataW.weights_mem_each ht hd n ?_)
        rw [hd1]
        simp only [DataW.weights, Tryd.underlying40]
        exact hn
      obtain ⟨z0, g0, _, _⟩ := DataW.trod_int Tryd.underlying3 t0
      obtain ⟨z1, g1, _, _⟩ := DataW.trod_string Tryd.underlying9 t1
      obtain ⟨z2, g2, _, _⟩ := DataW.trod_string Tryd.underlying9 t2
      obtain ⟨z3, g3, _, _⟩ := DataW.trod_int Tryd.underlying3 t3
      obtain ⟨z4, g4, _, _⟩ := DataW.trod_int Tryd.underlying3 t4
      obtain ⟨z5, g5, _, _⟩ := DataW.trod_int Tryd.underlying3 t5
      obtain ⟨z6, g6, _, _⟩ := DataW.trod_int Tryd.underlying3 t6
      obtain ⟨bs, hb⟩ := open_bytes1 (c := x7) t7 (fun el sp e => by
        have h1 := sized_slice hin (j := 7) rfl (by rw [show [y0.1, y1.1, y2.1, y3.1, y4.1, y5.1, y6.1, y7.1][7]? = some y7.1 from rfl, e]) Tryd.underlying25
        have h2 : Tryd.prog.bytesOf 5 = 1 := by kernel_rfl
        rw [h2] at h1
        have := reachBytes_lt
        omega)
      have k0 : List.take (Tryd.prog.cellsOf 3) [x0, x1, x2, x3, x4, x5, x6, x7] = _ := g0
      have k1 : List.take (Tryd.prog.cellsOf 9) [x1, x2, x3, x4, x5, x6, x7] = _ := g1
      have k2 : List.take (Tryd.prog.cellsOf 9) [x2, x3, x4, x5, x6, x7] = _ := g2
      have k3 : List.take (Tryd.prog.cellsOf 3) [x3, x4, x5, x6, x7] = _ := g3
      have k4 : List.take (Tryd.prog.cellsOf 3) [x4, x5, x6, x7] = _ := g4
      have k5 : List.take (Tryd.prog.cellsOf 3) [x5, x6, x7] = _ := g5
      have k6 : List.take (Tryd.prog.cellsOf 3) [x6, x7] = _ := g6
      rw [hc1] at k0 k3 k4 k5 k6
      rw [hc0] at k1 k2
      injection k0 with k0 _
      injection k1 with k1 _
      injection k2 with k2 _
      injection k3 with k3 _
      injection k4 with k4 _
      injection k5 with k5 _
      injection k6 with k6 _
      exact ⟨⟨z0, z1, z2, z3, z4, z5, z6⟩, x7, bs, by rw [k0, k1, k2, k3, k4, k5, k6]; rfl, hb⟩
end
end Go.Proofs.YtphpciglpnbblaaDoor
