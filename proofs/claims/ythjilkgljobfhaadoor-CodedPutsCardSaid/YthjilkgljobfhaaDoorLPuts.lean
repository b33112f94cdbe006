/-
  CodedPuts, walked.
-/
import Derived.Test.YthjilkgljobfhaaDoorCRefPut
import Derived.Test.YthjilkgljobfhaaDoorLOrder
namespace Go.Proofs.YthjilkgljobfhaaDoor
open Go.RowKit

set_option maxHeartbeats 1000000 in
theorem codedPuts_walk (z : Int) (w : World) (hL : Laid w) :
    Calls Tryd.prog 3 #[iv z] w fun e w' => e = .returned (.bool true) ∧ Only Nix w w' := by
  have HL : Hid (∀ u, Only Nix w u → Laid u) := fun u o => hL.nix o
  clear hL
  rcases out_or z with hz | ⟨n, rfl, hn⟩
  · have Hz := Lib.hid hz
    rcases hz with h | h
    · go_enter Tryd.func3, Tryd.ntmps3
      go_wp2_with fail
      refine (put_no z Hz.out).mono ?_
      rintro e w1 ⟨rfl, rfl⟩
      go_wp2_with fail
      refine (len_no z Hz.out).mono ?_
      rintro e w1 ⟨rfl, rfl⟩
      go_wp2_with fail
      refine (aw (Only.refl _ _) (HL.out _ (Only.refl _ _))).mono ?_
      rintro e w5 ⟨rfl, o5⟩
      go_wp2
      go_ret
      exact ⟨rfl, o5⟩
    · have h' : ¬ z < 0 := by omega
      go_enter Tryd.func3, Tryd.ntmps3
      go_wp2_with fail
      refine (put_no z Hz.out).mono ?_
      rintro e w1 ⟨rfl, rfl⟩
      go_wp2_with fail
      refine (len_no z Hz.out).mono ?_
      rintro e w1 ⟨rfl, rfl⟩
      go_wp2_with fail
      refine (aw (Only.refl _ _) (HL.out _ (Only.refl _ _))).mono ?_
      rintro e w5 ⟨rfl, o5⟩
      go_wp2
      go_ret
      exact ⟨rfl, o5⟩
  · have d1 : ¬ ((n : Int) < 0) := by omega
    have d2 : ¬ ((68719476735 : Int) < (n : Int)) := by omega
    have hlen := cd_len n
    go_enter Tryd.func3, Tryd.ntmps3
    go_wp2_with fail
    refine (put_at (HL.out _ (Only.refl _ _)) n (szOf n) _ (cd n) rfl hn rfl rfl).mono ?_
    rintro e w1 ⟨g1, rfl, s1, o1⟩
    have S1 := Lib.hid s1
    clear s1
    go_wp2_with fail
    refine (len_yes (HL.out _ o1) n _ rfl hn).mono ?_
    rintro e w2 ⟨rfl, rfl⟩
    have HR := Lib.hid (putRef_any (w := w1) n hn)
    go_wp2_with fail
    refine (HR.out).mono ?_
    rintro e w3 ⟨v3, rfl, s3, o3⟩
    obtain ⟨A3, c3, hv3⟩ := s3.slice
    subst hv3
    rw [hlen] at s3 ⊢
    have HE := Lib.hid (equal_at (Only.refl Nix _) (some ⟨g1, 0, none⟩) A3 (szOf n) (szOf n) (szOf n) c3 (cd n) (S1.out.nix o3) s3)
    clear s3 S1 HR
    have p3 := o1.trans o3
    generalize szOf n = S at *
    go_wp2_with fail
    refine (HE.out).mono ?_
    rintro e w4 ⟨rfl, o4⟩
    have p4 := p3.trans o4
    clear o4
    go_wp2_with fail
    refine (aw (w := w) p4 (HL.out _ p4)).mono ?_
    rintro e w5 ⟨rfl, o5⟩
    go_wp2
    go_ret
    exact ⟨rfl, o5⟩
end Go.Proofs.YthjilkgljobfhaaDoor
