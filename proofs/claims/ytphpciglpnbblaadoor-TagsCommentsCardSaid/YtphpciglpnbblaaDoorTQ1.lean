/-
  slices.Grow and slices.Concat of texts.
-/
import Derived.Test.YtphpciglpnbblaaDoorTW
import Derived.Test.YtphpciglpnbblaaDoorZeros
import Derived.Deep.OwnRows
namespace Go.Proofs.YtphpciglpnbblaaDoor
open Go.RowKit Go.Shelf

theorem elem_string : Tryd.prog.elem 22 = 9 := by simp [Program.elem, Tryd.underlying22]
theorem size_string (u : World) : (sizeOf 9).run Tryd.prog u = .ok 1 u := by kernel_rfl
theorem slice_tos (A : Option Addr) (n c h : Nat) (hh : h ≤ c) (u : World) : (Instr.slice 22 (.slice A n c) none (some (.int .i64 (h : Int))) none).run Tryd.prog u = .ok (.slice A h c) u := by
  rw [run_slice_h u 22 A n c (by rw [elem_string]; exact Tryd.underlying22) .i64 h (by omega) (by omega), elem_string, size_string]
  cases A <;> simp [Result.andThen, sliced, Addr.add]
theorem owns_none {w : World} {base : Nat} {A : Option Addr} {n c : Nat} {xs : List ByteArray} (h : Owns w base 9 Value.string (.slice A n c) xs) : Owns w base 9 Value.string (.slice A 0 c) [] := by
  rcases h.2 with ⟨e, _⟩ | ⟨g, cap, cur, e, hb, hg, hle, hcm, hsz, ht⟩
  · injection e with e1 e2 e3
    subst e1 e3
    exact Owns.nil _ _ _ _
  · injection e with e1 e2 e3
    subst e1 e3
    exact ⟨rfl, .inr ⟨g, c, cur, rfl, hb, hg, Nat.zero_le _, hcm, hsz, by simp⟩⟩
def GwR (w : World) (e : Ending) (w' : World) : Prop := (∃ v, e = .returned v ∧ Owns w' w.heap.size 9 Value.string v []) ∧ Only Nix w w'
theorem replicate_map (k : Nat) : List.replicate k (Value.string ⟨#[]⟩) = (List.replicate k (⟨#[]⟩ : ByteArray)).map Value.string := by simp
set_option maxHeartbeats 2000000 in
set_option maxRecDepth 100000 in
theorem grow_any {w : World} (n : Nat) (hn : n ≤ 100000) : Calls Tryd.prog 56 #[.slice none 0 0, iv n] w fun e w' => GwR w e w' := by
  obtain ⟨i0, hi, hz0, hz1, hz2⟩ := info_parts Tryd.info_string
  by_cases h0 : n = 0
  · subst h0
    have HF : Hid (GwR w (.returned (.slice none 0 0)) w) := Lib.hid ⟨⟨_, rfl, Owns.nil _ _ _ _⟩, Only.refl _ _⟩
    go_enter Tryd.func56, Tryd.ntmps56
    go_wp2
    go_ret
    exact HF.out
  · have hni : (0 : Int) < (n : Int) := by omega
    obtain ⟨v', w', hr, hmore, hgr, hloc⟩ := run_append_own_zeros (P := Tryd.prog) w w.heap.size 22 3 22 9 i0 (.string ⟨#[]⟩) 16 .i64 .i64 Tryd.underlying22 Tryd.underlying3 hi hz0 hz1 hz2 rfl rfl (.slice none 0 0) 0 [] (Owns.nil w w.heap.size 9 Value.string) n (by unfold maxLen; omega) (by omega) (Nat.le_refl _)
    have hO : Owns w' w.heap.size 9 Value.string v' (List.replicate n (⟨#[]⟩ : ByteArray)) := by
      rw [List.nil_append, replicate_map, Nat.zero_add] at hmore
      unfold Owns
      rw [List.length_replicate]
      exact hmore
    obtain ⟨A, c, rfl⟩ := hO.slice
    have hsl := slice_tos A (List.replicate n (⟨#[]⟩ : ByteArray)).length c 0 (Nat.zero_le _)
    have HF : Hid (GwR w (.returned (.slice A 0 c)) w') := Lib.hid ⟨⟨_, rfl, owns_none hO⟩, (Only.refl Nix w).grown hgr (fun k hk => by cases hk)⟩
    rw [List.length_replicate] at hr hsl
    rw [show ((0 : Nat) : Int) = 0 from rfl] at hsl
    clear hmore hgr hloc hO
    go_enter Tryd.func56, Tryd.ntmps56
    have HRn := Lib.hid hr
    clear hr
    go_wp2_with (at_builtin; refine Lib.wpList_append_run w rfl (.tmp 20) (.tmp 21) 22 3 rfl (.slice none 0 0) (iv n) rfl rfl _ _ HRn.out ?_)
    go_ret
    exact HF.out
set_option maxRecDepth 100000 in
/-- texts l... (nil, empty or not), appended to a row of the call's own -/
theorem run_append_texts {w : World} (base : Nat) (v : Value) (xs : List ByteArray) (hown : Owns w base 9 Value.string v xs) (A : Option Addr) (m c : Nat) (l : List ByteArray) (hs : SSrc w (.slice A m c) l)
    (h63 : xs.length + m ≤ 1000000) (hbase : base ≤ w.heap.size) (ty : TypeId) :
    ∃ v' w', (Builtin.append_ #[22, 22] ty #[v, .slice A m c]).run Tryd.prog w = .ok v' w' ∧ Owns w' base 9 Value.string v' (xs ++ l) ∧ w.grownBy w' v.ownBlock ∧ (v'.ownBlock = v.ownBlock ∨ v'.ownBlock = some w.heap.size) := by
  obtain ⟨i0, hi, hz0, hz1, hz2⟩ := info_parts Tryd.info_string
  obtain rfl := hs.len
  cases A with
  | some ad =>
    obtain ⟨v', w', h1, h2, h3, _, h5⟩ := run_append_own_at (P := Tryd.prog) w base 22 ty 9 i0 (.string ⟨#[]⟩) 1 16 Tryd.underlying22 hi hz0 hz1 hz2 rfl (by decide) v xs.length (xs.map Value.string) hown ad l.length c (l.map Value.string) (by simp)
      (fun j u hu => by
        rw [List.getElem?_map] at hu
        obtain ⟨x, hx, rfl⟩ := Option.map_eq_some_iff.1 hu
        obtain ⟨hj, rfl⟩ := List.getElem?_eq_some_iff.1 hx
        obtain ⟨ad', e, hc⟩ := hs.at_ hj
        injection e with e
        subst e
        exact hc)
      (fun u hu => by obtain ⟨y, _, rfl⟩ := List.mem_map.1 hu; rfl) (by unfold maxLen; omega) (by omega) hbase
    refine ⟨v', w', h1, ?_, h3, h5⟩
    unfold Owns
    rw [List.length_append, List.map_append]
    exact h2
  | none =>
    have hb : l = [] := by
      cases l with
      | nil => rfl
      | cons x r =>
        obtain ⟨ad', e, _⟩ := hs.at_ (k := 0) (by simp)
        cases e
    subst hb
    have hsrc : Go.Src Tryd.prog i0.size 22 (.slice none 0 c) 0 [] w := Go.Src.ofNil w Tryd.underlying22 c
    have key : ∀ B k d, v = .slice B k d → k ≤ d → (Builtin.append_ #[22, 22] ty #[v, .slice none 0 c]).run Tryd.prog w = .ok v w := by
      rintro B k d rfl hle
      exact run_append_nothing w 22 22 ty 9 i0 Tryd.underlying22 hi B k d hle _ hsrc
    refine ⟨v, w, ?_, by simpa using hown, ⟨rfl, rfl, rfl, Nat.le_refl _, fun _ _ _ => rfl⟩, .inl rfl⟩
    rcases hown.2 with ⟨hv, _⟩ | ⟨g, cap, cur, hv, _, _, hle, _⟩
    · exact key _ _ _ hv (Nat.le_refl _)
    · exact key _ _ _ hv hle
theorem app_texts {w : World} {ops : Array Oper} {rest : List Oper} {o : Oper} {a : Act} {Q : Exit → Act → World → Prop} (hgd : o.guard = none) (s x : Operand)
    (ho : o.op = .call { callee := .builtin .append, args := #[s, x], argTypes := #[22, 22] })
    (base : Nat) (v : Value) (xs : List ByteArray) (hs : a.eval s = v) (hown : Owns w base 9 Value.string v xs)
    (A : Option Addr) (m c : Nat) (l : List ByteArray) (hx : a.eval x = .slice A m c) (hsrc : SSrc w (.slice A m c) l) (h63 : xs.length + m ≤ 1000000) (hbase : base ≤ w.heap.size)
    (h : ∀ v' w', Owns w' base 9 Value.string v' (xs ++ l) → w.grownBy w' v.ownBlock → (v'.ownBlock = v.ownBlock ∨ v'.ownBlock = some w.heap.size) → wpList Tryd.prog ops Q rest (a.put o.dst v') w') :
    wpList Tryd.prog ops Q (o :: rest) a w := by
  refine wpList_plain hgd fun K hK => ?_
  obtain ⟨v', w', hr, h2, h3, h4⟩ := run_append_texts base v xs hown A m c l hsrc h63 hbase o.type
  unfold Oper.wp execOp
  simp only [ho, resolve, invoke, builtin, Sem.run_bind, Sem.run_pure, Result.andThen_ok, List.map_toArray, List.map_cons, List.map_nil, hs, hx, hr]
  exact hK _ _ (h v' w' h2 h3 h4)
def CcS (w : World) (a b : Nat) (s3 s11 : Value) (wr : World) : Prop := ∃ i : Nat, i ≤ 2 ∧ s11 = iv i ∧ s3 = iv (((if 0 < i then a else 0) + (if 1 < i then b else 0) : Nat) : Int) ∧ w = wr
def CcA (w : World) (l m : List ByteArray) (s6 s27 : Value) (wr : World) : Prop := ∃ i : Nat, i ≤ 2 ∧ s27 = iv i ∧ Owns wr w.heap.size 9 Value.string s6 ((if 0 < i then l else []) ++ (if 1 < i then m else [])) ∧ Only Nix w wr
def CcR (w : World) (R : List ByteArray) (e : Ending) (w' : World) : Prop := (∃ v, e = .returned v ∧ Owns w' w.heap.size 9 Value.string v R) ∧ Only Nix w w'
set_option maxRecDepth 100000 in
set_option maxHeartbeats 8000000 in
theorem concat_any {w : World} {g : Nat} {x y : Value} {l m : List ByteArray} (c0 : w.cell? ⟨g, 0, none⟩ = some x) (c1 : w.cell? ⟨g, 1, none⟩ = some y) (hx : SSrc w x l) (hy : SSrc w y m) (hl : l.length ≤ 10000) (hm : m.length ≤ 10000) :
    Calls Tryd.prog 45 #[.slice (some ⟨g, 0, none⟩) 2 2] w fun e w' => CcR w (l ++ m) e w' := by
  obtain ⟨A, c, rfl, _⟩ := hx.slice
  obtain ⟨B, d, rfl, _⟩ := hy.slice
  have HX := Lib.hid hx
  have HY := Lib.hid hy
  have HG := Lib.hid (fun (u : World) (n : Nat) (hn : n ≤ 100000) => grow_any (w := u) n hn)
  obtain ⟨a, ha⟩ : ∃ a, l.length = a := ⟨_, rfl⟩
  obtain ⟨b, hb⟩ : ∃ b, m.length = b := ⟨_, rfl⟩
  rw [ha] at HX hl c0
  rw [hb] at HY hm c1
  have Ha := Lib.hid ha
  have Hb := Lib.hid hb
  have C0 := Lib.hid c0
  have C1 := Lib.hid c1
  clear hx hy ha hb
  go_enter Tryd.func45, Tryd.ntmps45
  go_wp2
  go_loopw [3, 11] (fun s3 s11 wr => CcS w a b s3 s11 wr) (fun _ s11 _ => 2 - (intOf s11).toNat)
  case atStart => exact ⟨0, by decide, rfl, rfl, rfl⟩
  case round =>
    obtain ⟨i, hi, rfl, rfl, rfl⟩ := hrel
    match i, hi with
    | 0, _ =>
      rw [show ((0 : Nat) : Int) = 0 from rfl, show (((if 0 < 0 then a else 0) + (if 1 < 0 then b else 0) : Nat) : Int) = 0 from rfl]
      have ha0 : ¬ (a : Int) < 0 := by omega
      go_wp2
      go_roundw
      case rel => exact ⟨1, by decide, rfl, rfl, rfl⟩
      case measure => simp [intOf]
    | 1, _ =>
      rw [show ((1 : Nat) : Int) = 1 from rfl, show (((if 0 < 1 then a else 0) + (if 1 < 1 then b else 0) : Nat) : Int) = (a : Int) from rfl]
      have ha0 : ¬ (a : Int) + (b : Int) < 0 := by omega
      go_wp2
      go_roundw
      case rel => exact ⟨2, by decide, rfl, by simp, rfl⟩
      case measure => simp [intOf]
    | 2, _ =>
      rw [show ((2 : Nat) : Int) = 2 from rfl, show (((if 0 < 2 then a else 0) + (if 1 < 2 then b else 0) : Nat) : Int) = ((a + b : Nat) : Int) from rfl]
      have HGn := Lib.hid (HG.out w (a + b) (by omega))
      obtain ⟨N, hN⟩ : ∃ N, a + b = N := ⟨_, rfl⟩
      rw [hN] at HGn ⊢
      clear hN
      go_wp2_with fail
      refine (HGn.out).mono ?_
      rintro e w2 ⟨⟨v, rfl, hown⟩, ho⟩
      have HW := Lib.hid hown
      have HO := Lib.hid ho
      clear hown ho
      go_wp2
      go_loopw [6, 27] (fun s6 s27 wr => CcA w l m s6 s27 wr) (fun _ s27 _ => 2 - (intOf s27).toNat)
      case atStart => exact ⟨0, by decide, rfl, HW.out, HO.out⟩
      case round =>
        obtain ⟨i, hi, rfl, hown, ho⟩ := hrel
        have HOj := Lib.hid ho
        match i, hi with
        | 0, _ =>
          have k0 := cell_keep ho C0.out
          have HWj : Hid (Owns wr w.heap.size 9 Value.string u6 []) := Lib.hid hown
          have HXj := Lib.hid (HX.out.nix ho)
          rw [show ((0 : Nat) : Int) = 0 from rfl]
          clear hown ho
          go_wp2_with (at_builtin; refine app_texts rfl (.tmp 31) (.tmp 32) rfl w.heap.size u6 [] rfl HWj.out A a c l rfl HXj.out ?len1 HOj.out.size ?rest1)
          case len1 => simp; omega
          case rest1 =>
            intro v3 w3 h3 g3 m3
            have HW3 := Lib.hid h3
            have HO3 := Lib.hid (HOj.out.grown g3 (fun k hk => .inr (HWj.out.lt hk).1))
            clear h3 g3 m3
            go_wp2
            go_roundw
            case rel => exact ⟨1, by decide, rfl, by simpa using HW3.out, HO3.out⟩
            case measure => simp [intOf]
        | 1, _ =>
          have k1 := cell_keep ho C1.out
          have HWj : Hid (Owns wr w.heap.size 9 Value.string u6 l) := Lib.hid (by simpa using hown)
          have HYj := Lib.hid (HY.out.nix ho)
          rw [show ((1 : Nat) : Int) = 1 from rfl]
          clear hown ho
          go_wp2_with (at_builtin; refine app_texts rfl (.tmp 31) (.tmp 32) rfl w.heap.size u6 l rfl HWj.out B b d m rfl HYj.out ?len1 HOj.out.size ?rest1)
          case len1 => have := Ha.out; omega
          case rest1 =>
            intro v3 w3 h3 g3 m3
            have HW3 := Lib.hid h3
            have HO3 := Lib.hid (HOj.out.grown g3 (fun k hk => .inr (HWj.out.lt hk).1))
            clear h3 g3 m3
            go_wp2
            go_roundw
            case rel => exact ⟨2, by decide, rfl, by simpa using HW3.out, HO3.out⟩
            case measure => simp [intOf]
        | 2, _ =>
          have HF : Hid (CcR w (l ++ m) (.returned u6) wr) := Lib.hid ⟨⟨_, rfl, by simpa using hown⟩, ho⟩
          rw [show ((2 : Nat) : Int) = 2 from rfl]
          clear hown ho
          go_wp2
          go_ret
          exact HF.out
end Go.Proofs.YtphpciglpnbblaaDoor
