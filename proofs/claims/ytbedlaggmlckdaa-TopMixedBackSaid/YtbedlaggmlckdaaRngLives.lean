/- The document's own answers for rng, as the laws ask for them. -/
import Derived.Test.YtbedlaggmlckdaaRngPerm
namespace Go.Proofs.Ytbedlaggmlckdaa
open Go.RowKit

theorem Below_c1 (w : World) : Calls Try.prog 17 #[.int .u64 9223372036854775808, .int .u64 10] w fun e w' => e = .returned (.int .u64 5) ∧ w = w' :=
  Below_any 9223372036854775808 10 w (by omega) (by omega)
theorem Below_c2 (w : World) : Calls Try.prog 17 #[.int .u64 9, .int .u64 0] w fun e w' => e = .returned (.int .u64 0) ∧ w = w' :=
  Below_any 9 0 w (by omega) (by omega)
theorem Mix_c1 (w : World) : Calls Try.prog 11 #[.int .u64 77] w fun e w' => e = .returned (.int .u64 (mixB 77#64).toNat) ∧ w = w' :=
  Mix_any 77#64 w
theorem Unmix_c1 (w : World) : Calls Try.prog 13 #[.int .u64 (mixB 77#64).toNat] w fun e w' => e = .returned (.int .u64 77) ∧ w = w' := by
  have h := Unmix_any (mixB 77#64) w
  rw [unmix_mix] at h
  exact h
theorem mix0 : (mixB 0#64).toNat = 16294208416658607535 := by decide +kernel
theorem Mix_c2 (w : World) : Calls Try.prog 11 #[.int .u64 0] w fun e w' => e = .returned (.int .u64 16294208416658607535) ∧ w = w' := by
  have h := Mix_any 0#64 w
  rw [mix0] at h
  exact h
theorem at50 : atB 5#64 0#64 = mixB 5#64 := by decide +kernel
theorem At_c1 (w : World) : Calls Try.prog 15 #[.int .u64 5, .int .u64 0] w fun e w' => e = .returned (.int .u64 (mixB 5#64).toNat) ∧ w = w' := by
  have h := At_any 5#64 0#64 w
  rw [at50] at h
  exact h
theorem Mix_c3 (w : World) : Calls Try.prog 11 #[.int .u64 5] w fun e w' => e = .returned (.int .u64 (mixB 5#64).toNat) ∧ w = w' :=
  Mix_any 5#64 w
theorem Unmix_c2 (w : World) : Calls Try.prog 13 #[.int .u64 0] w fun e w' => e = .returned (.int .u64 (unmixB 0#64).toNat) ∧ w = w' :=
  Unmix_any 0#64 w
theorem lev0 : levN (unmixB 0#64) (clampN 2) = 1 := by decide +kernel
theorem Level_c1 (w : World) : Calls Try.prog 19 #[.int .u64 (unmixB 0#64).toNat, .int .i64 2] w fun e w' => e = .returned (.int .i64 1) ∧ w = w' := by
  have h := Level_any (unmixB 0#64) 2 w
  rw [lev0] at h
  exact h
theorem perm13 : permL 1#64 (clampP 3) = [0, 1, 2] := by decide +kernel
theorem Perm_c1 (w : World) : Calls Try.prog 22 #[.int .u64 1, .int .i64 3] w (IntsOut [0, 1, 2] w) := by
  have h := Perm_any 1#64 3 w
  rw [perm13] at h
  exact h

set_option maxHeartbeats 1000000 in
theorem rng_lives_any (w : World) : Calls Try.prog 10 #[] w fun e w' => e = .returned (.bool true) ∧ Below w.heap.size w w' := by
  go_enter Try.func10, Try.ntmps10
  go_wp2_with fail
  refine (Perm_c1 _).mono ?_
  rintro e w1 ⟨A, c, rfl, hr, hb⟩
  obtain ⟨b, off, rfl, _, c0⟩ := hr 0 _ rfl
  obtain ⟨b', off', he1, _, c1⟩ := hr 1 _ rfl
  obtain ⟨b'', off'', he2, _, c2⟩ := hr 2 _ rfl
  injection he1 with he1
  injection he1 with h3 h4
  subst h3
  subst h4
  injection he2 with he2
  injection he2 with h3 h4
  subst h3
  subst h4
  rw [Nat.add_zero] at c0
  clear hr
  go_wp2
  go_quiet ((first | (go_at_call 17; first | with_reducible exact quiet_same (Below_c1 _) | with_reducible exact quiet_same (Below_c2 _)) | (go_at_call 11; first | with_reducible exact quiet_same (Mix_c1 _) | with_reducible exact quiet_same (Mix_c2 _) | with_reducible exact quiet_same (Mix_c3 _)) | (go_at_call 13; first | with_reducible exact quiet_same (Unmix_c1 _) | with_reducible exact quiet_same (Unmix_c2 _)) | (go_at_call 15; with_reducible exact quiet_same (At_c1 _)) | (go_at_call 19; with_reducible exact quiet_same (Level_c1 _))))
  go_wp2
  go_ret
  exact ⟨rfl, Below.next hb (below_draws _ _ _)⟩

end Go.Proofs.Ytbedlaggmlckdaa
