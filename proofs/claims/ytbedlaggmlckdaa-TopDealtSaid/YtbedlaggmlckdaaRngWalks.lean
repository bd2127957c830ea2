/- The contracts of package rng and of the document's own answers for it: numbers that are mixed, and numbers below others. -/
import Derived.Test.YtbedlaggmlckdaaBvPlain
import Derived.Deep.DeepCutAuto
import Derived.WalkMore
import Derived.ScopeJumps
import Derived.Test.YtbedlaggmlckdaaPackPlain
namespace Go.Proofs.Ytbedlaggmlckdaa
open Go.RowKit

set_option maxHeartbeats 400000 in
theorem fold_any (z : BitVec 64) (k : Nat) (w : World) (hk : k < 64) :
    Calls Try.prog 39 #[.int .u64 z.toNat, .int .i64 k] w fun e w' => e = .returned (.int .u64 (foldB z k).toNat) ∧ w = w' := by
  go_enter Try.func39, Try.ntmps39
  go_wp2
  go_ret
  refine ⟨ret_int ?_, rfl⟩
  rw [bv_shrB, bv_fold]

/-- What holds at the head of each round of a way back. -/
def UnRel (z : BitVec 64) (k : Nat) (x at_ : Value) : Prop :=
  (x = .int .u64 z.toNat ∧ at_ = .int .i64 k) ∨ (x = .int .u64 (foldB z k).toNat ∧ at_ = .int .i64 ((2 * k : Nat) : Int)) ∨ (x = .int .u64 (unfoldB z k).toNat ∧ at_ = .int .i64 ((3 * k : Nat) : Int))

set_option maxHeartbeats 400000 in
theorem unfold_any (z : BitVec 64) (k : Nat) (w : World) (hk : k < 32) (hk' : 21 < k) :
    Calls Try.prog 40 #[.int .u64 z.toNat, .int .i64 k] w fun e w' => e = .returned (.int .u64 (unfoldB z k).toNat) ∧ w = w' := by
  have hk0 : (k : Int) < 64 := by omega
  go_enter Try.func40, Try.ntmps40
  go_wp2
  go_loop [5, 6] (fun x i => UnRel z k x i) (fun _ i => 100 - (intOf i).toNat)
  case atStart => exact .inl ⟨rfl, rfl⟩
  case round =>
    rcases hrel with ⟨rfl, rfl⟩ | ⟨rfl, rfl⟩ | ⟨rfl, rfl⟩
    · go_wp2
      go_round
      case rel =>
        refine .inr (.inl ⟨?_, ?_⟩)
        · rw [bv_shrB, bv_fold]
        · rw [show (k : Int) + (k : Int) = ((2 * k : Nat) : Int) from by omega]
      case measure => simp [intOf]; omega
    · go_wp2
      go_round
      case rel =>
        refine .inr (.inr ⟨?_, ?_⟩)
        · rw [bv_shrB, bv_unfold]
        · rw [show 2 * (k : Int) + (k : Int) = ((3 * k : Nat) : Int) from by omega]
      case measure => simp [intOf]; omega
    · go_wp2
      go_ret
      exact ⟨rfl, rfl⟩

set_option maxHeartbeats 400000 in
theorem Mix_any (x : BitVec 64) (w : World) :
    Calls Try.prog 11 #[.int .u64 x.toNat] w fun e w' => e = .returned (.int .u64 (mixB x).toNat) ∧ w = w' := by
  go_enter Try.func11, Try.ntmps11
  go_wp2_with fail
  rw [bv_stride]
  refine (fold_any _ 30 _ (by omega)).mono ?_
  rintro e w' ⟨rfl, rfl⟩
  go_wp2_with fail
  rw [bv_fact1]
  refine (fold_any _ 27 _ (by omega)).mono ?_
  rintro e w' ⟨rfl, rfl⟩
  go_wp2_with fail
  rw [bv_fact2]
  refine (fold_any _ 31 _ (by omega)).mono ?_
  rintro e w' ⟨rfl, rfl⟩
  go_wp2
  go_ret
  exact ⟨ret_int (by rw [mixB]), rfl⟩

set_option maxHeartbeats 400000 in
theorem Unmix_any (x : BitVec 64) (w : World) :
    Calls Try.prog 13 #[.int .u64 x.toNat] w fun e w' => e = .returned (.int .u64 (unmixB x).toNat) ∧ w = w' := by
  go_enter Try.func13, Try.ntmps13
  go_wp2_with fail
  refine (unfold_any _ 31 _ (by omega) (by omega)).mono ?_
  rintro e w' ⟨rfl, rfl⟩
  go_wp2_with fail
  rw [bv_back2]
  refine (unfold_any _ 27 _ (by omega) (by omega)).mono ?_
  rintro e w' ⟨rfl, rfl⟩
  go_wp2_with fail
  rw [bv_back1]
  refine (unfold_any _ 30 _ (by omega) (by omega)).mono ?_
  rintro e w' ⟨rfl, rfl⟩
  go_wp2
  rw [bv_unstride]
  go_ret
  exact ⟨ret_int (by rw [unmixB]), rfl⟩

set_option maxHeartbeats 400000 in
theorem At_any (s n : BitVec 64) (w : World) :
    Calls Try.prog 15 #[.int .u64 s.toNat, .int .u64 n.toNat] w fun e w' => e = .returned (.int .u64 (atB s n).toNat) ∧ w = w' := by
  go_enter Try.func15, Try.ntmps15
  go_wp2_with fail
  rw [bv_stride_mul, bv_addB]
  refine (Mix_any _ _).mono ?_
  rintro e w' ⟨rfl, rfl⟩
  go_wp2
  go_ret
  exact ⟨ret_int (by rw [atB]), rfl⟩

set_option maxHeartbeats 400000 in
theorem ref_Mix_any (x : BitVec 64) (w : World) :
    Calls Try.prog 12 #[.int .u64 x.toNat] w fun e w' => e = .returned (.int .u64 (mixB x).toNat) ∧ w = w' := by
  go_enter Try.func12, Try.ntmps12
  go_wp2
  simp only [bv_stride, bv_fact1, bv_fact2, bv_tdivB _ 30 1073741824 (by decide), bv_tdivB _ 27 134217728 (by decide), bv_tdivB _ 31 2147483648 (by decide), bv_fold]
  go_ret
  exact ⟨ret_int (by rw [mixB]), rfl⟩

set_option maxHeartbeats 400000 in
theorem ref_At_any (s n : BitVec 64) (w : World) :
    Calls Try.prog 16 #[.int .u64 s.toNat, .int .u64 n.toNat] w fun e w' => e = .returned (.int .u64 (atB s n).toNat) ∧ w = w' := by
  go_enter Try.func16, Try.ntmps16
  go_wp2_with fail
  rw [bv_stride_mul, bv_addB]
  refine (ref_Mix_any _ _).mono ?_
  rintro e w' ⟨rfl, rfl⟩
  go_wp2
  go_ret
  exact ⟨ret_int (by rw [atB]), rfl⟩

set_option maxHeartbeats 400000 in
theorem turned_any (x : BitVec 64) (w : World) :
    Calls Try.prog 42 #[.int .u64 x.toNat] w fun e w' => e = .returned (.int .u64 (turnedB x 6).toNat) ∧ w = w' := by
  go_enter Try.func42, Try.ntmps42
  go_wp2
  go_loop [3, 4] (fun v i => ∃ j : Nat, j ≤ 6 ∧ i = .int .i64 j ∧ v = .int .u64 (turnedB x j).toNat) (fun _ i => 6 - (intOf i).toNat)
  case atStart => exact ⟨0, by omega, rfl, rfl⟩
  case round =>
    obtain ⟨j, hj, rfl, rfl⟩ := hrel
    by_cases hlt : j < 6
    · go_wp2
      go_round
      case rel => exact ⟨j + 1, by omega, by go_num, by rw [bv_turn]; rfl⟩
      case measure => simp [intOf]; omega
    · obtain rfl : j = 6 := by omega
      go_wp2
      go_ret
      exact ⟨rfl, rfl⟩

set_option maxHeartbeats 400000 in
theorem unshift_any (z : BitVec 64) (k : Nat) (w : World) (hk : k < 32) (hk' : 21 < k) :
    Calls Try.prog 41 #[.int .u64 z.toNat, .int .i64 k] w fun e w' => e = .returned (.int .u64 (unfoldB z k).toNat) ∧ w = w' := by
  have HE := Lib.hid (xss3 z k (by omega))
  have hk0 : (k : Int) < 64 := by omega
  go_enter Try.func41, Try.ntmps41
  go_wp2
  go_loop [5, 6] (fun v i => ∃ j : Nat, j ≤ 3 ∧ i = .int .i64 j ∧ v = .int .u64 (xssB z k j).toNat) (fun _ i => 3 - (intOf i).toNat)
  case atStart => exact ⟨0, by omega, rfl, rfl⟩
  case round =>
    obtain ⟨j, hj, rfl, rfl⟩ := hrel
    by_cases hlt : j < 3
    · go_wp2
      go_round
      case rel => exact ⟨j + 1, by omega, by go_num, by rw [bv_shrB, bv_xs]; rfl⟩
      case measure => simp [intOf]; omega
    · obtain rfl : j = 3 := by omega
      go_wp2
      go_ret
      exact ⟨by rw [← HE.out]; rfl, rfl⟩

set_option maxHeartbeats 400000 in
theorem ref_Unmix_any (x : BitVec 64) (w : World) :
    Calls Try.prog 14 #[.int .u64 x.toNat] w fun e w' => e = .returned (.int .u64 (unmixB x).toNat) ∧ w = w' := by
  have T1 := turned_any fact1
  have T2 := turned_any fact2
  rw [turned1, fact1_nat, back1_nat] at T1
  rw [turned2, fact2_nat, back2_nat] at T2
  have H1 := Lib.hid T1
  have H2 := Lib.hid T2
  clear T1 T2
  go_enter Try.func14, Try.ntmps14
  go_wp2_with fail
  refine (unshift_any _ 31 _ (by omega) (by omega)).mono ?_
  rintro e w' ⟨rfl, rfl⟩
  go_wp2_with fail
  refine (H2.out _).mono ?_
  rintro e w' ⟨rfl, rfl⟩
  go_wp2_with fail
  rw [bv_back2]
  refine (unshift_any _ 27 _ (by omega) (by omega)).mono ?_
  rintro e w' ⟨rfl, rfl⟩
  go_wp2_with fail
  refine (H1.out _).mono ?_
  rintro e w' ⟨rfl, rfl⟩
  go_wp2_with fail
  rw [bv_back1]
  refine (unshift_any _ 30 _ (by omega) (by omega)).mono ?_
  rintro e w' ⟨rfl, rfl⟩
  go_wp2
  rw [bv_unstride]
  go_ret
  exact ⟨ret_int (by rw [unmixB]), rfl⟩

/-- Two numbers of 64 bits, by their halves: the parts of their product, none of which goes beyond 64 bits. -/
def Halves (x y a b c d p q r s t u : Nat) : Prop :=
  (x / 4294967296 = a ∧ x % 4294967296 = b ∧ y / 4294967296 = c ∧ y % 4294967296 = d) ∧ (a * c = p ∧ a * d = q ∧ b * c = r ∧ b * d = s) ∧
  (q + s / 4294967296 = t ∧ t % 4294967296 + r = u ∧ p + t / 4294967296 + u / 4294967296 = x * y / 18446744073709551616) ∧
  (p < 18446744073709551616 ∧ q < 18446744073709551616 ∧ r < 18446744073709551616 ∧ s < 18446744073709551616) ∧
  (t < 18446744073709551616 ∧ u < 18446744073709551616 ∧ p + t / 4294967296 + u / 4294967296 < 18446744073709551616)

theorem half_prod (a b : Nat) (ha : a ≤ 4294967295) (hb : b ≤ 4294967295) : a * b ≤ 18446744065119617025 := Nat.mul_le_mul ha hb

theorem halves (x y : Nat) (hx : x < 18446744073709551616) (hy : y < 18446744073709551616) : ∃ a b c d p q r s t u, Halves x y a b c d p q r s t u := by
  refine ⟨_, _, _, _, _, _, _, _, _, _, ⟨rfl, rfl, rfl, rfl⟩, ⟨rfl, rfl, rfl, rfl⟩, ⟨rfl, rfl, ?_⟩, ?_, ?_⟩
  · have ex : x = 4294967296 * (x / 4294967296) + x % 4294967296 := (Nat.div_add_mod x 4294967296).symm
    have ey : y = 4294967296 * (y / 4294967296) + y % 4294967296 := (Nat.div_add_mod y 4294967296).symm
    have exy : x * y = 4294967296 * 4294967296 * (x / 4294967296 * (y / 4294967296)) + 4294967296 * (x / 4294967296 * (y % 4294967296)) + (4294967296 * (x % 4294967296 * (y / 4294967296)) + x % 4294967296 * (y % 4294967296)) := by
      generalize x / 4294967296 = a at *
      generalize x % 4294967296 = b at *
      generalize y / 4294967296 = c at *
      generalize y % 4294967296 = d at *
      rw [ex, ey, Nat.add_mul, Nat.mul_add, Nat.mul_add, Nat.mul_mul_mul_comm, Nat.mul_assoc 4294967296 a d, Nat.mul_left_comm b]
    rw [exy]
    clear exy ex ey
    generalize x / 4294967296 * (y / 4294967296) = p
    generalize x / 4294967296 * (y % 4294967296) = q
    generalize x % 4294967296 * (y / 4294967296) = r
    generalize x % 4294967296 * (y % 4294967296) = s
    omega
  all_goals
    have h1 := half_prod (x / 4294967296) (y / 4294967296) (by omega) (by omega)
    have h2 := half_prod (x / 4294967296) (y % 4294967296) (by omega) (by omega)
    have h3 := half_prod (x % 4294967296) (y / 4294967296) (by omega) (by omega)
    have h4 := half_prod (x % 4294967296) (y % 4294967296) (by omega) (by omega)
    generalize x / 4294967296 * (y / 4294967296) = p at *
    generalize x / 4294967296 * (y % 4294967296) = q at *
    generalize x % 4294967296 * (y / 4294967296) = r at *
    generalize x % 4294967296 * (y % 4294967296) = s at *
    omega

theorem low_half (n : Nat) (h : n < 18446744073709551616) : bits .and .u64 (n : Int) 4294967295 = ((n % 4294967296 : Nat) : Int) := by
  have e := and_ones (n : Int) 32 (by omega) (by omega) (by omega)
  rw [show (2 : Int) ^ 32 - 1 = 4294967295 from by decide, show (2 : Int) ^ 32 = 4294967296 from by decide] at e
  rw [e]
  omega
theorem keep64 (z : Int) (n : Nat) (h : z = (n : Int)) (hn : n < 18446744073709551616) : IntKind.u64.wrap z = (n : Int) := by
  rw [IntKind.wrap_u64, h]
  omega

set_option maxHeartbeats 1000000 in
theorem Mul64_any (x y : Nat) (w : World) (hx : x < 18446744073709551616) (hy : y < 18446744073709551616) :
    Calls Try.prog 43 #[.int .u64 x, .int .u64 y] w fun e w' => e = .returned (.tuple #[.int .u64 ((x * y / 18446744073709551616 : Nat) : Int), .int .u64 ((x * y % 18446744073709551616 : Nat) : Int)]) ∧ w = w' := by
  obtain ⟨a, b, c, d, p, q, r, s, t, u, ⟨ha, hb, hc, hd⟩, ⟨hp, hq, hr, hs⟩, ⟨ht, hu, hz⟩, ⟨bp, bq, br, bs⟩, bt, bu, bz⟩ := halves x y hx hy
  have fa : (x : Int) / 4294967296 = (a : Int) := by omega
  have fb : bits .and .u64 (x : Int) 4294967295 = (b : Int) := by rw [low_half x hx, hb]
  have fc : (y : Int) / 4294967296 = (c : Int) := by omega
  have fd : bits .and .u64 (y : Int) 4294967295 = (d : Int) := by rw [low_half y hy, hd]
  have fp := keep64 ((a : Int) * (c : Int)) p (by rw [← hp]; simp) bp
  have fq := keep64 ((a : Int) * (d : Int)) q (by rw [← hq]; simp) bq
  have fr := keep64 ((b : Int) * (c : Int)) r (by rw [← hr]; simp) br
  have fs := keep64 ((b : Int) * (d : Int)) s (by rw [← hs]; simp) bs
  have ft := keep64 ((q : Int) + (s : Int) / 4294967296) t (by omega) bt
  have fu := keep64 (bits .and .u64 (t : Int) 4294967295 + (r : Int)) u (by rw [low_half t bt]; omega) bu
  have fv := keep64 ((p : Int) + (t : Int) / 4294967296) (p + t / 4294967296) (by omega) (by omega)
  have fz := keep64 ((p : Int) + (t : Int) / 4294967296 + (u : Int) / 4294967296) (x * y / 18446744073709551616) (by omega) (by omega)
  have fl : IntKind.u64.wrap ((x : Int) * (y : Int)) = ((x * y % 18446744073709551616 : Nat) : Int) := by
    rw [IntKind.wrap_u64, ← Int.natCast_mul]
    generalize x * y = n
    omega
  clear ha hb hc hd hp hq hr hs ht hu hz bp bq br bs bt bu bz
  generalize x * y / 18446744073709551616 = hi at *
  generalize x * y % 18446744073709551616 = lo at *
  go_enter Try.func43, Try.ntmps43
  go_wp2
  go_ret2
  exact ⟨rfl, rfl⟩

set_option maxHeartbeats 400000 in
theorem Below_any (x n : Nat) (w : World) (hx : x < 18446744073709551616) (hn : n < 18446744073709551616) :
    Calls Try.prog 17 #[.int .u64 x, .int .u64 n] w fun e w' => e = .returned (.int .u64 ((x * n / 18446744073709551616 : Nat) : Int)) ∧ w = w' := by
  have H := Mul64_any x n w hx hn
  generalize x * n / 18446744073709551616 = hi at *
  generalize x * n % 18446744073709551616 = lo at *
  go_enter Try.func17, Try.ntmps17
  go_wp2_with fail
  refine H.mono ?_
  rintro e w' ⟨rfl, rfl⟩
  go_wp2
  go_ret
  exact ⟨rfl, rfl⟩

set_option maxHeartbeats 1000000 in
theorem ref_Below_any (x y : Nat) (w : World) (hx : x < 18446744073709551616) (hy : y < 18446744073709551616) :
    Calls Try.prog 18 #[.int .u64 x, .int .u64 y] w fun e w' => e = .returned (.int .u64 ((x * y / 18446744073709551616 : Nat) : Int)) ∧ w = w' := by
  obtain ⟨a, b, c, d, p, q, r, s, t, u, ⟨ha, hb, hc, hd⟩, ⟨hp, hq, hr, hs⟩, ⟨ht, hu, hz⟩, ⟨bp, bq, br, bs⟩, bt, bu, bz⟩ := halves x y hx hy
  have fa : (x : Int) / 4294967296 = (a : Int) := by omega
  have fb : (x : Int) % 4294967296 = (b : Int) := by omega
  have fc : (y : Int) / 4294967296 = (c : Int) := by omega
  have fd : (y : Int) % 4294967296 = (d : Int) := by omega
  have fp := keep64 ((a : Int) * (c : Int)) p (by rw [← hp]; simp) bp
  have fq := keep64 ((a : Int) * (d : Int)) q (by rw [← hq]; simp) bq
  have fr := keep64 ((b : Int) * (c : Int)) r (by rw [← hr]; simp) br
  have fs := keep64 ((b : Int) * (d : Int)) s (by rw [← hs]; simp) bs
  have ft := keep64 ((q : Int) + (s : Int) / 4294967296) t (by omega) bt
  have fu := keep64 ((t : Int) % 4294967296 + (r : Int)) u (by omega) bu
  have fv := keep64 ((p : Int) + (t : Int) / 4294967296) (p + t / 4294967296) (by omega) (by omega)
  have fz := keep64 ((p : Int) + (t : Int) / 4294967296 + (u : Int) / 4294967296) (x * y / 18446744073709551616) (by omega) (by omega)
  clear ha hb hc hd hp hq hr hs ht hu hz bp bq br bs bt bu bz
  generalize x * y / 18446744073709551616 = hi at *
  go_enter Try.func18, Try.ntmps18
  go_wp2
  go_ret
  exact ⟨rfl, rfl⟩

/-- What is below m of the draw at place l of a seed; and the level to which a draw leads, from l on. -/
def belN (d : BitVec 64) (l m : Nat) : Nat := (atB d (BitVec.ofNat 64 l)).toNat * m / 18446744073709551616
def levF (d : BitVec 64) (m : Nat) : Nat → Nat → Nat
  | 0, l => l
  | n + 1, l => if belN d l m = 0 then levF d m n (l + 1) else l
def levN (d : BitVec 64) (m : Nat) : Nat := levF d m 7 0
theorem levF_step (d : BitVec 64) (m l : Nat) (h : l < 7) : levF d m (7 - l) l = if belN d l m = 0 then levF d m (7 - (l + 1)) (l + 1) else l := by
  obtain ⟨n, hn⟩ : ∃ n, 7 - l = n + 1 := ⟨6 - l, by omega⟩
  rw [hn, levF, show 7 - (l + 1) = n from by omega]
theorem levF_end (d : BitVec 64) (m : Nat) : levF d m (7 - 7) 7 = 7 := rfl

theorem nat_bv (n : Nat) (h : n < 18446744073709551616) : (n : Int) = ((BitVec.ofNat 64 n).toNat : Int) := by
  rw [BitVec.toNat_ofNat]
  omega
theorem At_num (s : BitVec 64) (n : Nat) (w : World) (h : n < 18446744073709551616) :
    Calls Try.prog 15 #[.int .u64 s.toNat, .int .u64 n] w fun e w' => e = .returned (.int .u64 (atB s (BitVec.ofNat 64 n)).toNat) ∧ w = w' := by
  rw [nat_bv n h]
  exact At_any _ _ _
theorem ref_At_num (s : BitVec 64) (n : Nat) (w : World) (h : n < 18446744073709551616) :
    Calls Try.prog 16 #[.int .u64 s.toNat, .int .u64 n] w fun e w' => e = .returned (.int .u64 (atB s (BitVec.ofNat 64 n)).toNat) ∧ w = w' := by
  rw [nat_bv n h]
  exact ref_At_any _ _ _
theorem Below_at (d : BitVec 64) (l m : Nat) (w : World) (hm : m < 18446744073709551616) :
    Calls Try.prog 17 #[.int .u64 (atB d (BitVec.ofNat 64 l)).toNat, .int .u64 m] w fun e w' => e = .returned (.int .u64 (belN d l m)) ∧ w = w' := Below_any _ _ _ (atB d (BitVec.ofNat 64 l)).isLt hm
theorem ref_Below_at (d : BitVec 64) (l m : Nat) (w : World) (hm : m < 18446744073709551616) :
    Calls Try.prog 18 #[.int .u64 (atB d (BitVec.ofNat 64 l)).toNat, .int .u64 m] w fun e w' => e = .returned (.int .u64 (belN d l m)) ∧ w = w' := ref_Below_any _ _ _ (atB d (BitVec.ofNat 64 l)).isLt hm

/-- The links that a level reckons with. -/
def clampN (links : Int) : Nat := if links < 2 then 2 else if 32 < links then 32 else links.toNat

/-- What holds at each jump. -/
def LevJ (d : BitVec 64) (links : Int) (m : Nat) (w : World) (a : Act) (w' : World) : Prop :=
  w = w' ∧ ∃ (l : Nat) (u7 u8 u9 u10 u11 u12 u13 u14 u15 u16 u17 u18 u19 u20 u21 u22 u23 : Value), l ≤ 7 ∧ Hid (levF d m (7 - l) l = levN d m) ∧
    a = { tmps := #[.int .u64 d.toNat, .int .i64 links, undef, undef, .int .i64 0, .int .u64 m, .int .i64 l, u7, u8, u9, u10, u11, u12, u13, u14, u15, u16, u17, u18, u19, u20, u21, u22, u23, undef], defers := [] }

theorem beq0 {q : Nat} (h : q = 0) : ((q : Int) == 0) = true := by simp [h]
theorem bne0 {q : Nat} (h : ¬ q = 0) : ((q : Int) == 0) = false := by simp [h]

set_option maxHeartbeats 1000000 in
theorem Level_any (d : BitVec 64) (links : Int) (w : World) :
    Calls Try.prog 19 #[.int .u64 d.toNat, .int .i64 links] w fun e w' => e = .returned (.int .i64 (levN d (clampN links))) ∧ w = w' := by
  obtain ⟨m, hm0, hm1, HC, hcase⟩ : ∃ m : Nat, 2 ≤ m ∧ m ≤ 32 ∧ Hid (clampN links = m) ∧ ((links < 2 ∧ m = 2) ∨ (links = (m : Int)) ∨ (32 < links ∧ m = 32)) := by
    unfold clampN
    by_cases h2 : links < 2
    · exact ⟨2, by omega, by omega, by rw [Hid, if_pos h2], .inl ⟨h2, rfl⟩⟩
    · by_cases h3 : 32 < links
      · exact ⟨32, by omega, by omega, by rw [Hid, if_neg h2, if_pos h3], .inr (.inr ⟨h3, rfl⟩)⟩
      · exact ⟨links.toNat, by omega, by omega, by rw [Hid, if_neg h2, if_neg h3], .inr (.inl (by omega))⟩
  have hmm : m < 18446744073709551616 := by omega
  have HM := Lib.hid hmm
  clear hmm
  go_enter Try.func19, Try.ntmps19
  go_wp2
  refine wp_scope_jumps 0 (LevJ d links m w) (fun a' _ => 7 - (intOf (a'.tmps.getD 6 undef)).toNat) rfl ?_ ?_
  · have hs := Lib.hid (levF_step d m 0 (by omega))
    by_cases hq : belN d 0 m = 0
    · have hb := beq0 hq
      have HS : Hid (levF d m (7 - (0 + 1)) (0 + 1) = levN d m) := by
        have := hs.out
        rw [if_pos hq] at this
        exact this.symm
      clear hq
      rcases hcase with ⟨h2, rfl⟩ | rfl | ⟨h2, rfl⟩
      all_goals
        go_wp2
        go_step3
        go_wp2_with fail
        refine (At_num d 0 _ (by omega)).mono ?_
        rintro e w' ⟨rfl, rfl⟩
        go_wp2_with fail
        refine (Below_at d 0 _ _ HM.out).mono ?_
        rintro e w' ⟨rfl, rfl⟩
        go_wp2
        go_step3
        exact ⟨rfl, rfl, 0 + 1, _, _, _, _, _, _, _, _, _, _, _, _, _, _, _, _, _, by omega, HS, rfl⟩
    · have hb := bne0 hq
      have HS : Hid (levN d m = 0) := by
        have := hs.out
        rw [if_neg hq] at this
        exact this
      clear hq
      rcases hcase with ⟨h2, rfl⟩ | rfl | ⟨h2, rfl⟩
      all_goals
        go_wp2
        go_step3
        go_wp2_with fail
        refine (At_num d 0 _ (by omega)).mono ?_
        rintro e w' ⟨rfl, rfl⟩
        go_wp2_with fail
        refine (Below_at d 0 _ _ HM.out).mono ?_
        rintro e w' ⟨rfl, rfl⟩
        go_wp2
        simp only [Exit.jump]
        go_ret
        exact ⟨ret_int (by rw [HC.out, HS.out]; rfl), rfl⟩
  · clear hcase
    rintro a' w' ⟨rfl, l, u7, u8, u9, u10, u11, u12, u13, u14, u15, u16, u17, u18, u19, u20, u21, u22, u23, hl, HL, rfl⟩
    by_cases hlt : l < 7
    · have hs := Lib.hid (levF_step d m l hlt)
      by_cases hq : belN d l m = 0
      · have hb := beq0 hq
        have HS : Hid (levF d m (7 - (l + 1)) (l + 1) = levN d m) := by rw [Hid, ← HL.out, hs.out, if_pos hq]
        clear hq
        go_wp2_with fail
        refine (At_num d l _ (by omega)).mono ?_
        rintro e w' ⟨rfl, rfl⟩
        go_wp2_with fail
        refine (Below_at d l _ _ HM.out).mono ?_
        rintro e w' ⟨rfl, rfl⟩
        go_wp2
        go_step3
        refine ⟨rfl, ⟨rfl, l + 1, _, _, _, _, _, _, _, _, _, _, _, _, _, _, _, _, _, by omega, HS, rfl⟩, ?_⟩
        simp [intOf]
        omega
      · have hb := bne0 hq
        have HS : Hid (levN d m = l) := by rw [Hid, ← HL.out, hs.out, if_neg hq]
        clear hq
        go_wp2_with fail
        refine (At_num d l _ (by omega)).mono ?_
        rintro e w' ⟨rfl, rfl⟩
        go_wp2_with fail
        refine (Below_at d l _ _ HM.out).mono ?_
        rintro e w' ⟨rfl, rfl⟩
        go_wp2
        simp only [Exit.jump]
        go_ret
        exact ⟨ret_int (by rw [HC.out, HS.out]), rfl⟩
    · obtain rfl : l = 7 := by omega
      have HS : Hid (levN d m = 7) := HL.out.symm
      go_wp2
      simp only [Exit.jump]
      go_ret
      exact ⟨ret_int (by rw [HC.out, HS.out]; rfl), rfl⟩

theorem bne0' {q : Nat} (h : q = 0) : ((q : Int) != 0) = false := by simp [h]
theorem beq0' {q : Nat} (h : ¬ q = 0) : ((q : Int) != 0) = true := by simp [h]

set_option maxHeartbeats 1000000 in
theorem ref_Level_any (d : BitVec 64) (links : Int) (w : World) :
    Calls Try.prog 20 #[.int .u64 d.toNat, .int .i64 links] w fun e w' => e = .returned (.int .i64 (levN d (clampN links))) ∧ w = w' := by
  obtain ⟨m, hm0, hm1, HC, hcase⟩ : ∃ m : Nat, 2 ≤ m ∧ m ≤ 32 ∧ Hid (clampN links = m) ∧ ((links < 2 ∧ m = 2) ∨ (links = (m : Int)) ∨ (32 < links ∧ m = 32)) := by
    unfold clampN
    by_cases h2 : links < 2
    · exact ⟨2, by omega, by omega, by rw [Hid, if_pos h2], .inl ⟨h2, rfl⟩⟩
    · by_cases h3 : 32 < links
      · exact ⟨32, by omega, by omega, by rw [Hid, if_neg h2, if_pos h3], .inr (.inr ⟨h3, rfl⟩)⟩
      · exact ⟨links.toNat, by omega, by omega, by rw [Hid, if_neg h2, if_neg h3], .inr (.inl (by omega))⟩
  have hmm : m < 18446744073709551616 := by omega
  have HM := Lib.hid hmm
  clear hmm
  go_enter Try.func20, Try.ntmps20
  go_upto_region 1 with (fail)
  go_cut [5] (fun v wx => v = .int .i64 m ∧ w = wx)
  case first =>
    rcases hcase with ⟨h2, rfl⟩ | rfl | ⟨h2, rfl⟩
    all_goals
      go_wp2_with fail
      go_meet
      exact ⟨rfl, rfl⟩
  case rest =>
    obtain ⟨rfl, rfl⟩ := hcut
    clear hcase
    go_wp2
    go_loop [6] (fun i => ∃ l : Nat, l ≤ 7 ∧ i = .int .i64 l ∧ Hid (levF d m (7 - l) l = levN d m)) (fun i => 7 - (intOf i).toNat)
    case atStart => exact ⟨0, by omega, rfl, rfl⟩
    case round =>
      obtain ⟨l, hl, rfl, HL⟩ := hrel
      by_cases hlt : l < 7
      · have hs := Lib.hid (levF_step d m l hlt)
        by_cases hq : belN d l m = 0
        · have hb := bne0' hq
          have HS : Hid (levF d m (7 - (l + 1)) (l + 1) = levN d m) := by rw [Hid, ← HL.out, hs.out, if_pos hq]
          clear hq
          go_wp2_with fail
          refine (ref_At_num d l _ (by omega)).mono ?_
          rintro e w' ⟨rfl, rfl⟩
          go_wp2_with fail
          refine (ref_Below_at d l _ _ HM.out).mono ?_
          rintro e w' ⟨rfl, rfl⟩
          go_wp2
          go_round
          case rel => exact ⟨l + 1, by omega, by go_num, HS⟩
          case measure => simp [intOf]; omega
        · have hb := beq0' hq
          have HS : Hid (levN d m = l) := by rw [Hid, ← HL.out, hs.out, if_neg hq]
          clear hq
          go_wp2_with fail
          refine (ref_At_num d l _ (by omega)).mono ?_
          rintro e w' ⟨rfl, rfl⟩
          go_wp2_with fail
          refine (ref_Below_at d l _ _ HM.out).mono ?_
          rintro e w' ⟨rfl, rfl⟩
          go_wp2
          go_ret
          exact ⟨ret_int (by rw [HC.out, HS.out]), rfl⟩
      · obtain rfl : l = 7 := by omega
        have HS : Hid (levN d m = 7) := HL.out.symm
        go_wp2
        go_ret
        exact ⟨ret_int (by rw [HC.out, HS.out]; rfl), rfl⟩

end Go.Proofs.Ytbedlaggmlckdaa
