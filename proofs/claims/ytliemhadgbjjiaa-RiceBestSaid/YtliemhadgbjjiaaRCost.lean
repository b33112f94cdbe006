/-
  cost, and the closure that it answers.
-/
import Derived.Test.YtliemhadgbjjiaaRCheck
namespace Go.Proofs.Ytliemhadgbjjiaa
open Go.RowKit

/-- numbers without a sign as ints -/
def ivs (ns : List Nat) : List Int := ns.map fun (n : Nat) => (n : Int)
theorem ivs_len (ns : List Nat) : (ivs ns).length = ns.length := by simp [ivs]
/-- the greatest one -/
def mxN (ns : List Nat) : Nat := (mxI (ivs ns)).toNat
theorem mxN_mem {ns : List Nat} (h : 0 < ns.length) : mxN ns ∈ ns := by
  have h1 := mxI_mem (xs := ivs ns) (by rw [ivs_len]; exact h)
  unfold ivs at h1
  obtain ⟨x, hx, e⟩ := List.mem_map.1 h1
  unfold mxN ivs
  rw [← e, Int.toNat_natCast]
  exact hx
theorem mxN_le {ns : List Nat} : ∀ x ∈ ns, x ≤ mxN ns := by
  intro x hx
  have := mxI_le (xs := ivs ns) (x : Int) (List.mem_map.2 ⟨x, hx, rfl⟩)
  unfold mxN
  omega
theorem mxI_ivs {ns : List Nat} (h : 0 < ns.length) : mxI (ivs ns) = (mxN ns : Int) := by
  have h1 := mxI_mem (xs := ivs ns) (by rw [ivs_len]; exact h)
  unfold ivs at h1
  obtain ⟨x, hx, e⟩ := List.mem_map.1 h1
  unfold mxN ivs
  rw [← e, Int.toNat_natCast]
/-- what numbers have beside their last p bits -/
def hiS (p : Nat) (ns : List Nat) : Nat := (ns.map fun n => n / 2 ^ p).sum
theorem hiS_snoc (p : Nat) (ns : List Nat) (n : Nat) : hiS p (ns ++ [n]) = hiS p ns + n / 2 ^ p := by simp [hiS]
theorem hiS_bound (p : Nat) (ns : List Nat) (h : ∀ n ∈ ns, n < 4294967296) : hiS p ns ≤ 4294967296 * ns.length := by
  induction ns with
  | nil => simp [hiS]
  | cons n ns ih =>
    have h1 := ih (fun x hx => h x (List.mem_cons_of_mem _ hx))
    have h2 := h n (List.mem_cons_self ..)
    have h3 := Nat.div_le_self n (2 ^ p)
    unfold hiS at h1 ⊢
    rw [List.map_cons, List.sum_cons, List.length_cons]
    omega
/-- how many bits a part has by a parameter; raw -/
def szK (m p : Nat) (ns : List Nat) : Nat := 4 + m + (1 + p) * ns.length + hiS p ns
def szR (m wd : Nat) (ns : List Nat) : Nat := 4 + m + 5 + wd * ns.length

/-- where the closure's numbers lie -/
structure Told (w : World) (B : Nat) (m : Nat) (v : Value) (ns : List Nat) : Prop where
  b0 : Box w B 3 #[iv m]
  b1 : Box w (B + 1) 22 #[v]
  b2 : Box w (B + 2) 3 #[iv (mxN ns)]
  src : ISrc w v (ivs ns)
theorem Told.nix {w w' : World} {B m : Nat} {v : Value} {ns : List Nat} (h : Told w B m v ns) (ho : Only Nix w w') : Told w' B m v ns :=
  ⟨h.b0.only ho (fun e => e), h.b1.only ho (fun e => e), h.b2.only ho (fun e => e), h.src.nix ho⟩
/-- the closure -/
abbrev tellV (B : Nat) : Value := .func (.func 58) #[] #[.pointer (some ⟨B, 0, none⟩), .pointer (some ⟨B + 1, 0, none⟩), .pointer (some ⟨B + 2, 0, none⟩)]

set_option maxHeartbeats 1000000 in
theorem cost_any {w : World} (m : Nat) (A : Option Addr) (c : Nat) (ns : List Nat) (hx : ISrc w (.slice A ns.length c) (ivs ns)) (h1 : 1 ≤ ns.length) :
    Calls Try.prog 37 #[iv m, .slice A ns.length c] w fun e w' => e = .returned (tellV w.heap.size) ∧ Told w' w.heap.size m (.slice A ns.length c) ns ∧ Only Nix w w' ∧ w'.heap.size = w.heap.size + 3 := by
  have o1 := ((Only.refl Nix w).alloc (.cells #[iv m] 3)).alloc (.cells #[.slice A ns.length c] 22)
  have HM := Lib.hid (max_any A c (ivs ns) (ISrc.nix (by rw [ivs_len]; exact hx) o1) (by rw [ivs_len]; exact h1))
  rw [mxI_ivs (by omega), ivs_len] at HM
  have HX := Lib.hid hx
  clear hx
  go_enter Try.func37, Try.ntmps37
  go_wp2_with fail
  refine (HM.out).mono ?_
  rintro e w1 ⟨rfl, rfl⟩
  go_wp2
  go_ret
  refine ⟨rfl, ⟨((Box.new w _ _).alloc _).alloc _, ?_, ?_, HX.out.nix ?_⟩, ?_, by simp⟩
  · have := (Box.new (w.alloc (.cells #[iv m] 3)) 22 #[.slice A ns.length c]).alloc (.cells #[Value.int .i64 (mxN ns)] 3)
    rw [World.size_alloc] at this
    exact this
  · have := Box.new ((w.alloc (.cells #[iv m] 3)).alloc (.cells #[.slice A ns.length c] 22)) 3 #[Value.int .i64 (mxN ns)]
    rw [World.size_alloc, World.size_alloc] at this
    exact this
  · exact o1.alloc _
  · exact o1.alloc _

theorem ret_ib {a b : Int} {p q : Bool} (h : a = b) (h' : p = q) : Ending.returned (.tuple #[.int .i64 a, .bool p]) = .returned (.tuple #[.int .i64 b, .bool q]) := by rw [h, h']

set_option maxHeartbeats 1000000 in
theorem tell_raw {w : World} {B m : Nat} {A : Option Addr} {c : Nat} {ns : List Nat} (h : Told w B m (.slice A ns.length c) ns) (hm : m ≤ 1) (wd : Nat) (hwd : wd ≤ 31) (h1 : 1 ≤ ns.length) (h6 : ns.length ≤ 65535) (hlt : ∀ n ∈ ns, n < 4294967296) :
    Calls Try.prog 58 #[iv (-1), iv wd, .pointer (some ⟨B, 0, none⟩), .pointer (some ⟨B + 1, 0, none⟩), .pointer (some ⟨B + 2, 0, none⟩)] w fun e w' => e = .returned (.tuple #[iv (szR m wd ns), .bool (decide (mxN ns < 2 ^ wd))]) ∧ ∃ k, w' = w.drewN k := by
  have HP := Lib.hid (paramSize_any w (m : Int) (by omega))
  have hml := hlt _ (mxN_mem (ns := ns) (by omega))
  have hq : (mxN ns : Int) / 2 ^ wd = ((mxN ns / 2 ^ wd : Nat) : Int) := by rw [pow_cast, ← Int.natCast_ediv]
  have hz : decide (mxN ns < 2 ^ wd) = decide (mxN ns / 2 ^ wd = 0) := by
    rw [decide_eq_decide, Nat.div_eq_zero_iff]
    have := Nat.two_pow_pos wd
    omega
  have hwl : wd * ns.length ≤ 31 * 65535 := Nat.mul_le_mul hwd h6
  have hw0 : (wd : Int) * (ns.length : Int) = ((wd * ns.length : Nat) : Int) := by rw [Int.natCast_mul]
  have HSZ : Hid ((szR m wd ns : Int) = 4 + (m : Int) + 5 + ((wd * ns.length : Nat) : Int)) := Lib.hid (by unfold szR; omega)
  rw [hz]
  have d0 := h.b0.cell 0
  have d1 := h.b1.cell 0
  have d2 := h.b2.cell 0
  simp only [List.getElem?_toArray, List.getElem?_cons_zero] at d0 d1 d2
  clear h hz hlt
  generalize hK : szR m wd ns = SZ at *
  clear hK
  generalize mxN ns / 2 ^ wd = D at *
  generalize wd * ns.length = WL at *
  generalize ns.length = N at *
  generalize mxN ns = M at *
  go_enter Try.func58, Try.ntmps58
  go_wp2_with fail
  refine (HP.out).mono ?_
  rintro e w1 ⟨rfl, rfl⟩
  go_wp2
  go_quiet (fail)
  go_wp2
  go_ret2
  refine ⟨ret_ib ?_ ?_, _, rfl⟩
  · rw [HSZ.out]
  · by_cases hd : D = 0
    · subst hd; rfl
    · simp [hd]

def TellP (w : World) (base p : Nat) (ns : List Nat) (s9 s36 : Value) (wr : World) : Prop := ∃ j : Nat, j ≤ ns.length ∧ s36 = iv j ∧ s9 = iv ((base + hiS p (ns.take j) : Nat) : Int) ∧ w = wr
set_option maxHeartbeats 1000000 in
theorem tell_coded {w : World} {B m : Nat} {A : Option Addr} {c : Nat} {ns : List Nat} (h : Told w B m (.slice A ns.length c) ns) (hm : m ≤ 1) (p : Nat) (wd : Int) (hp : p ≤ 30) (h1 : 1 ≤ ns.length) (h6 : ns.length ≤ 65535) (hlt : ∀ n ∈ ns, n < 4294967296) :
    Calls Try.prog 58 #[iv p, iv wd, .pointer (some ⟨B, 0, none⟩), .pointer (some ⟨B + 1, 0, none⟩), .pointer (some ⟨B + 2, 0, none⟩)] w fun e w' => e = .returned (.tuple #[iv (szK m p ns), .bool (decide (mxN ns / 2 ^ p ≤ 65536))]) ∧ ∃ k, w' = w.drewN k := by
  have HP := Lib.hid (paramSize_any w (m : Int) (by omega))
  have hml := hlt _ (mxN_mem (ns := ns) (by omega))
  have hq : (mxN ns : Int) / 2 ^ p = ((mxN ns / 2 ^ p : Nat) : Int) := by rw [pow_cast, ← Int.natCast_ediv]
  have hql := Nat.div_le_self (mxN ns) (2 ^ p)
  have hwl : (1 + p) * ns.length ≤ 31 * 65535 := Nat.mul_le_mul (by omega) h6
  have hw0 : (1 + (p : Int)) * (ns.length : Int) = (((1 + p) * ns.length : Nat) : Int) := by rw [Int.natCast_mul]; first | done | rfl
  obtain ⟨base, hb⟩ : ∃ base, base = 4 + m + (1 + p) * ns.length := ⟨_, rfl⟩
  have HSZ : Hid (szK m p ns = base + hiS p ns) := Lib.hid (by unfold szK; rw [hb])
  have hbi : 4 + (m : Int) + (((1 + p) * ns.length : Nat) : Int) = (base : Int) := by rw [hb]; omega
  have hbb : base ≤ 2100000 := by omega
  have d0 := h.b0.cell 0
  have d1 := h.b1.cell 0
  have d2 := h.b2.cell 0
  simp only [List.getElem?_toArray, List.getElem?_cons_zero] at d0 d1 d2
  have HX := Lib.hid h.src
  have HL := Lib.hid hlt
  clear h hlt hb
  generalize hK : szK m p ns = SZ at *
  clear hK
  generalize mxN ns / 2 ^ p = D at *
  generalize (1 + p) * ns.length = WL at *
  have HT : Hid (ns.take ns.length = ns) := Lib.hid List.take_length
  generalize hN : ns.length = N at *
  have HN := Lib.hid hN
  clear hN
  generalize mxN ns = M at *
  have hpn : ((p : Int) == -1) = false := by rw [beq_eq_false_iff_ne]; omega
  go_enter Try.func58, Try.ntmps58
  go_wp2_with fail
  refine (HP.out).mono ?_
  rintro e w1 ⟨rfl, rfl⟩
  go_wp2
  go_loopw [9, 36] (fun s9 s36 wr => TellP w base p ns s9 s36 wr) (fun _ s36 _ => N - (intOf s36).toNat)
  case atStart => exact ⟨0, Nat.zero_le _, rfl, by simp [hiS], rfl⟩
  case round =>
    obtain ⟨j, hj, rfl, rfl, rfl⟩ := hrel
    rw [HN.out] at hj
    by_cases hlt : j < N
    · have hltx : j < (ivs ns).length := by rw [ivs_len, HN.out]; exact hlt
      obtain ⟨ad, rfl, hxj⟩ := HX.out.at_ hltx
      have hltn : j < ns.length := by rw [HN.out]; exact hlt
      have hxe : (ivs ns)[j] = ((ns[j] : Nat) : Int) := by simp [ivs]
      rw [hxe] at hxj
      have hb3 := HL.out _ (List.getElem_mem hltn)
      have HS : Hid (hiS p (ns.take (j + 1)) = hiS p (ns.take j) + ns[j] / 2 ^ p) := Lib.hid (by rw [List.take_succ_eq_append_getElem hltn, hiS_snoc])
      have hsb := hiS_bound p (ns.take j) (fun n hn => HL.out n (List.mem_of_mem_take hn))
      have hsl : (ns.take j).length ≤ 65535 := by rw [List.length_take, HN.out]; omega
      have hlt2 : (j : Int) < (N : Int) := by omega
      have hxd : ((ns[j] : Nat) : Int) / 2 ^ p = ((ns[j] / 2 ^ p : Nat) : Int) := by rw [pow_cast, ← Int.natCast_ediv]
      have hxl := Nat.div_le_self ns[j] (2 ^ p)
      clear hxe
      generalize ns[j] / 2 ^ p = xd at *
      generalize ns[j] = x at *
      clear hltx hltn
      generalize hiS p (ns.take j) = S at *
      generalize (ns.take j).length = SL at *
      go_wp2
      go_roundw
      case rel => exact ⟨j + 1, by rw [HN.out]; omega, by go_num, by rw [HS.out]; congr 1; omega, rfl⟩
      case measure => simp [intOf]; omega
    · obtain rfl : j = N := by omega
      have hlt2 : decide (j < j) = false := by simp
      rw [HT.out, ← HSZ.out]
      have hsb := hiS_bound p ns HL.out
      clear HSZ
      go_wp2
      go_quiet (fail)
      go_wp2
      go_ret2
      refine ⟨ret_ib rfl ?_, _, rfl⟩
      by_cases hd : D ≤ 65536
      · simp [hd]; omega
      · simp [hd]; omega
end Go.Proofs.Ytliemhadgbjjiaa
