/- RngTells, the walk of the law: program and answer are held side by side. -/
import Derived.Test.YtbedlaggmlckdaaRngLives
import Derived.Test.YtbedlaggmlckdaaSameInts
namespace Go.Proofs.Ytbedlaggmlckdaa
open Go.RowKit

set_option maxHeartbeats 1000000 in
theorem RngTells_walk (x n : BitVec 64) (links many : Int) (w : World) :
    Calls Try.prog 3 #[.int .u64 x.toNat, .int .u64 n.toNat, .int .i64 links, .int .i64 many] w fun e w' => e = .returned (.bool true) ∧ Below w.heap.size w w' := by
  have hx := Lib.hid x.isLt
  have hn := Lib.hid n.isLt
  have hpl : (permL x (clampP many)).length ≤ 9223372036854775807 := by
    rw [permL_length]
    obtain ⟨m, hm, hc, _⟩ := clampP_cases many
    omega
  go_enter Try.func3, Try.ntmps3
  go_wp2_with fail
  refine (rng_lives_any _).mono ?_
  rintro e w1 ⟨rfl, hb1⟩
  go_wp2_with fail
  refine (Mix_any x _).mono ?_
  rintro e w' ⟨rfl, rfl⟩
  go_wp2_with fail
  refine (ref_Mix_any x _).mono ?_
  rintro e w' ⟨rfl, rfl⟩
  go_wp2_with fail
  refine (Unmix_any x _).mono ?_
  rintro e w' ⟨rfl, rfl⟩
  go_wp2_with fail
  refine (ref_Unmix_any x _).mono ?_
  rintro e w' ⟨rfl, rfl⟩
  go_wp2_with fail
  refine (At_any x n _).mono ?_
  rintro e w' ⟨rfl, rfl⟩
  go_wp2_with fail
  refine (ref_At_any x n _).mono ?_
  rintro e w' ⟨rfl, rfl⟩
  go_wp2_with fail
  refine (Below_any x.toNat n.toNat _ hx.out hn.out).mono ?_
  rintro e w' ⟨rfl, rfl⟩
  go_wp2_with fail
  refine (ref_Below_any x.toNat n.toNat _ hx.out hn.out).mono ?_
  rintro e w' ⟨rfl, rfl⟩
  go_wp2_with fail
  refine (Level_any x links _).mono ?_
  rintro e w' ⟨rfl, rfl⟩
  go_wp2_with fail
  refine (ref_Level_any x links _).mono ?_
  rintro e w' ⟨rfl, rfl⟩
  go_wp2_with fail
  refine (Perm_any x many _).mono ?_
  rintro e w2 ⟨A, c, rfl, hr, hb2⟩
  have hB2 := Below.next hb1 hb2
  clear hb1 hb2
  go_wp2_with fail
  refine (ref_Perm_any x many _).mono ?_
  rintro e w3 ⟨A', c', rfl, hr', hb3⟩
  have hB3 := Below.next hB2 hb3
  have hr3 := (hr.below hb3).more hb3.size
  clear hB2 hb3 hr
  go_wp2_with fail
  refine (SameInts_refl A A' _ c c' _ hr3 hr' hpl).mono ?_
  rintro e w4 ⟨rfl, hd⟩
  have hB4 := Below.next hB3 (hd.below _)
  clear hd hB3 hr3 hr'
  go_wp2
  go_ret
  exact ⟨rfl, hB4⟩

end Go.Proofs.Ytbedlaggmlckdaa
