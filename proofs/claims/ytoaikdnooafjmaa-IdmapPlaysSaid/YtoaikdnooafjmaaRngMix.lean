/- The contracts of package rng and of the document's own answers for it: numbers that are mixed, and numbers below others (those alone). -/
import Derived.Test.YtoaikdnooafjmaaBvPlain
import Derived.Deep.DeepCutAuto
import Derived.WalkMore
import Derived.ScopeJumps
import Derived.Test.YtoaikdnooafjmaaPackPlain
namespace Go.Proofs.Ytoaikdnooafjmaa
open Go.RowKit

set_option maxHeartbeats 400000 in
theorem fold_any (z : BitVec 64) (k : Nat) (w : World) (hk : k < 64) :
    Calls Try.prog 186 #[.int .u64 z.toNat, .int .i64 k] w fun e w' => e = .returned (.int .u64 (foldB z k).toNat) ∧ w = w' := by
  go_enter Try.func186, Try.ntmps186
  go_wp2
  go_ret
  refine ⟨ret_int ?_, rfl⟩
  rw [bv_shrB, bv_fold]

set_option maxHeartbeats 400000 in
theorem Mix_any (x : BitVec 64) (w : World) :
    Calls Try.prog 148 #[.int .u64 x.toNat] w fun e w' => e = .returned (.int .u64 (mixB x).toNat) ∧ w = w' := by
  go_enter Try.func148, Try.ntmps148
  go_wp2_with fail
  rw [bv_stride]
  refine (fold_any _ 30 _ (by omega)).mono ?_
  rintro e w' ⟨rfl, rfl⟩
  go_wp2_with fail
  rw [bv_fact1]
  refine (fold_any _ 27 _ (by omega)).mono ?_
  rintro e w' ⟨rfl, rfl⟩
  go_wp2_with fail
  rw [bv_fact2]
  refine (fold_any _ 31 _ (by omega)).mono ?_
  rintro e w' ⟨rfl, rfl⟩
  go_wp2
  go_ret
  exact ⟨ret_int (by rw [mixB]), rfl⟩

set_option maxHeartbeats 400000 in
theorem ref_Mix_any (x : BitVec 64) (w : World) :
    Calls Try.prog 150 #[.int .u64 x.toNat] w fun e w' => e = .returned (.int .u64 (mixB x).toNat) ∧ w = w' := by
  go_enter Try.func150, Try.ntmps150
  go_wp2
  simp only [bv_stride, bv_fact1, bv_fact2, bv_tdivB _ 30 1073741824 (by decide), bv_tdivB _ 27 134217728 (by decide), bv_tdivB _ 31 2147483648 (by decide), bv_fold]
  go_ret
  exact ⟨ret_int (by rw [mixB]), rfl⟩

/-- Two numbers of 64 bits, by their halves: the parts of their product, none of which goes beyond 64 bits. -/
def Halves (x y a b c d p q r s t u : Nat) : Prop :=
  (x / 4294967296 = a ∧ x % 4294967296 = b ∧ y / 4294967296 = c ∧ y % 4294967296 = d) ∧ (a * c = p ∧ a * d = q ∧ b * c = r ∧ b * d = s) ∧
  (q + s / 4294967296 = t ∧ t % 4294967296 + r = u ∧ p + t / 4294967296 + u / 4294967296 = x * y / 18446744073709551616) ∧
  (p < 18446744073709551616 ∧ q < 18446744073709551616 ∧ r < 18446744073709551616 ∧ s < 18446744073709551616) ∧
  (t < 18446744073709551616 ∧ u < 18446744073709551616 ∧ p + t / 4294967296 + u / 4294967296 < 18446744073709551616)

theorem half_prod (a b : Nat) (ha : a ≤ 4294967295) (hb : b ≤ 4294967295) : a * b ≤ 18446744065119617025 := Nat.mul_le_mul ha hb

theorem halves (x y : Nat) (hx : x < 18446744073709551616) (hy : y < 18446744073709551616) : ∃ a b c d p q r s t u, Halves x y a b c d p q r s t u := by
  refine ⟨_, _, _, _, _, _, _, _, _, _, ⟨rfl, rfl, rfl, rfl⟩, ⟨rfl, rfl, rfl, rfl⟩, ⟨rfl, rfl, ?_⟩, ?_, ?_⟩
  · have ex : x = 4294967296 * (x / 4294967296) + x % 4294967296 := (Nat.div_add_mod x 4294967296).symm
    have ey : y = 4294967296 * (y / 4294967296) + y % 4294967296 := (Nat.div_add_mod y 4294967296).symm
    have exy : x * y = 4294967296 * 4294967296 * (x / 4294967296 * (y / 4294967296)) + 4294967296 * (x / 4294967296 * (y % 4294967296)) + (4294967296 * (x % 4294967296 * (y / 4294967296)) + x % 4294967296 * (y % 4294967296)) := by
      generalize x / 4294967296 = a at *
      generalize x % 4294967296 = b at *
      generalize y / 4294967296 = c at *
      generalize y % 4294967296 = d at *
      rw [ex, ey, Nat.add_mul, Nat.mul_add, Nat.mul_add, Nat.mul_mul_mul_comm, Nat.mul_assoc 4294967296 a d, Nat.mul_left_comm b]
    rw [exy]
    clear exy ex ey
    generalize x / 4294967296 * (y / 4294967296) = p
    generalize x / 4294967296 * (y % 4294967296) = q
    generalize x % 4294967296 * (y / 4294967296) = r
    generalize x % 4294967296 * (y % 4294967296) = s
    omega
  all_goals
    have h1 := half_prod (x / 4294967296) (y / 4294967296) (by omega) (by omega)
    have h2 := half_prod (x / 4294967296) (y % 4294967296) (by omega) (by omega)
    have h3 := half_prod (x % 4294967296) (y / 4294967296) (by omega) (by omega)
    have h4 := half_prod (x % 4294967296) (y % 4294967296) (by omega) (by omega)
    generalize x / 4294967296 * (y / 4294967296) = p at *
    generalize x / 4294967296 * (y % 4294967296) = q at *
    generalize x % 4294967296 * (y / 4294967296) = r at *
    generalize x % 4294967296 * (y % 4294967296) = s at *
    omega

theorem low_half (n : Nat) (h : n < 18446744073709551616) : bits .and .u64 (n : Int) 4294967295 = ((n % 4294967296 : Nat) : Int) := by
  have e := and_ones (n : Int) 32 (by omega) (by omega) (by omega)
  rw [show (2 : Int) ^ 32 - 1 = 4294967295 from by decide, show (2 : Int) ^ 32 = 4294967296 from by decide] at e
  rw [e]
  omega
theorem keep64 (z : Int) (n : Nat) (h : z = (n : Int)) (hn : n < 18446744073709551616) : IntKind.u64.wrap z = (n : Int) := by
  rw [IntKind.wrap_u64, h]
  omega

set_option maxHeartbeats 1000000 in
theorem Mul64_any (x y : Nat) (w : World) (hx : x < 18446744073709551616) (hy : y < 18446744073709551616) :
    Calls Try.prog 185 #[.int .u64 x, .int .u64 y] w fun e w' => e = .returned (.tuple #[.int .u64 ((x * y / 18446744073709551616 : Nat) : Int), .int .u64 ((x * y % 18446744073709551616 : Nat) : Int)]) ∧ w = w' := by
  obtain ⟨a, b, c, d, p, q, r, s, t, u, ⟨ha, hb, hc, hd⟩, ⟨hp, hq, hr, hs⟩, ⟨ht, hu, hz⟩, ⟨bp, bq, br, bs⟩, bt, bu, bz⟩ := halves x y hx hy
  have fa : (x : Int) / 4294967296 = (a : Int) := by omega
  have fb : bits .and .u64 (x : Int) 4294967295 = (b : Int) := by rw [low_half x hx, hb]
  have fc : (y : Int) / 4294967296 = (c : Int) := by omega
  have fd : bits .and .u64 (y : Int) 4294967295 = (d : Int) := by rw [low_half y hy, hd]
  have fp := keep64 ((a : Int) * (c : Int)) p (by rw [← hp]; simp) bp
  have fq := keep64 ((a : Int) * (d : Int)) q (by rw [← hq]; simp) bq
  have fr := keep64 ((b : Int) * (c : Int)) r (by rw [← hr]; simp) br
  have fs := keep64 ((b : Int) * (d : Int)) s (by rw [← hs]; simp) bs
  have ft := keep64 ((q : Int) + (s : Int) / 4294967296) t (by omega) bt
  have fu := keep64 (bits .and .u64 (t : Int) 4294967295 + (r : Int)) u (by rw [low_half t bt]; omega) bu
  have fv := keep64 ((p : Int) + (t : Int) / 4294967296) (p + t / 4294967296) (by omega) (by omega)
  have fz := keep64 ((p : Int) + (t : Int) / 4294967296 + (u : Int) / 4294967296) (x * y / 18446744073709551616) (by omega) (by omega)
  have fl : IntKind.u64.wrap ((x : Int) * (y : Int)) = ((x * y % 18446744073709551616 : Nat) : Int) := by
    rw [IntKind.wrap_u64, ← Int.natCast_mul]
    generalize x * y = n
    omega
  clear ha hb hc hd hp hq hr hs ht hu hz bp bq br bs bt bu bz
  generalize x * y / 18446744073709551616 = hi at *
  generalize x * y % 18446744073709551616 = lo at *
  go_enter Try.func185, Try.ntmps185
  go_wp2
  go_ret2
  exact ⟨rfl, rfl⟩

set_option maxHeartbeats 400000 in
theorem Below_any (x n : Nat) (w : World) (hx : x < 18446744073709551616) (hn : n < 18446744073709551616) :
    Calls Try.prog 147 #[.int .u64 x, .int .u64 n] w fun e w' => e = .returned (.int .u64 ((x * n / 18446744073709551616 : Nat) : Int)) ∧ w = w' := by
  have H := Mul64_any x n w hx hn
  generalize x * n / 18446744073709551616 = hi at *
  generalize x * n % 18446744073709551616 = lo at *
  go_enter Try.func147, Try.ntmps147
  go_wp2_with fail
  refine H.mono ?_
  rintro e w' ⟨rfl, rfl⟩
  go_wp2
  go_ret
  exact ⟨rfl, rfl⟩

set_option maxHeartbeats 1000000 in
theorem ref_Below_any (x y : Nat) (w : World) (hx : x < 18446744073709551616) (hy : y < 18446744073709551616) :
    Calls Try.prog 149 #[.int .u64 x, .int .u64 y] w fun e w' => e = .returned (.int .u64 ((x * y / 18446744073709551616 : Nat) : Int)) ∧ w = w' := by
  obtain ⟨a, b, c, d, p, q, r, s, t, u, ⟨ha, hb, hc, hd⟩, ⟨hp, hq, hr, hs⟩, ⟨ht, hu, hz⟩, ⟨bp, bq, br, bs⟩, bt, bu, bz⟩ := halves x y hx hy
  have fa : (x : Int) / 4294967296 = (a : Int) := by omega
  have fb : (x : Int) % 4294967296 = (b : Int) := by omega
  have fc : (y : Int) / 4294967296 = (c : Int) := by omega
  have fd : (y : Int) % 4294967296 = (d : Int) := by omega
  have fp := keep64 ((a : Int) * (c : Int)) p (by rw [← hp]; simp) bp
  have fq := keep64 ((a : Int) * (d : Int)) q (by rw [← hq]; simp) bq
  have fr := keep64 ((b : Int) * (c : Int)) r (by rw [← hr]; simp) br
  have fs := keep64 ((b : Int) * (d : Int)) s (by rw [← hs]; simp) bs
  have ft := keep64 ((q : Int) + (s : Int) / 4294967296) t (by omega) bt
  have fu := keep64 ((t : Int) % 4294967296 + (r : Int)) u (by omega) bu
  have fv := keep64 ((p : Int) + (t : Int) / 4294967296) (p + t / 4294967296) (by omega) (by omega)
  have fz := keep64 ((p : Int) + (t : Int) / 4294967296 + (u : Int) / 4294967296) (x * y / 18446744073709551616) (by omega) (by omega)
  clear ha hb hc hd hp hq hr hs ht hu hz bp bq br bs bt bu bz
  generalize x * y / 18446744073709551616 = hi at *
  go_enter Try.func149, Try.ntmps149
  go_wp2
  go_ret
  exact ⟨rfl, rfl⟩

theorem nat_bv (n : Nat) (h : n < 18446744073709551616) : (n : Int) = ((BitVec.ofNat 64 n).toNat : Int) := by
  rw [BitVec.toNat_ofNat]
  omega

end Go.Proofs.Ytoaikdnooafjmaa
