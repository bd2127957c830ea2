/- The contracts of package rng and of the document's own answers for it: numbers that are mixed, and numbers below others. -/
import Derived.Test.YtbedlaggmlckdaaBvPlain
import Derived.Deep.DeepCutAuto
import Derived.WalkMore
import Derived.ScopeJumps
import Derived.Test.YtbedlaggmlckdaaPackPlain
import Derived.Lib.Mul64
namespace Go.Proofs.Ytbedlaggmlckdaa
open Go.RowKit

set_option maxHeartbeats 400000 in
theorem fold_any (z : BitVec 64) (k : Nat) (w : World) (hk : k < 64) :
    Calls Try.prog 39 #[.int .u64 z.toNat, .int .i64 k] w fun e w' => e = .returned (.int .u64 (foldB z k).toNat) ∧ w = w' := by
  go_enter Try.func39, Try.ntmps39
  go_wp2
  go_ret
  refine ⟨ret_int ?_, rfl⟩
  rw [bv_shrB, bv_fold]

/-- What holds at the head of each round of a way back. -/
def UnRel (z : BitVec 64) (k : Nat) (x at_ : Value) : Prop :=
  (x = .int .u64 z.toNat ∧ at_ = .int .i64 k) ∨ (x = .int .u64 (foldB z k).toNat ∧ at_ = .int .i64 ((2 * k : Nat) : Int)) ∨ (x = .int .u64 (unfoldB z k).toNat ∧ at_ = .int .i64 ((3 * k : Nat) : Int))

set_option maxHeartbeats 400000 in
theorem unfold_any (z : BitVec 64) (k : Nat) (w : World) (hk : k < 32) (hk' : 21 < k) :
    Calls Try.prog 40 #[.int .u64 z.toNat, .int .i64 k] w fun e w' => e = .returned (.int .u64 (unfoldB z k).toNat) ∧ w = w' := by
  have hk0 : (k : Int) < 64 := by omega
  go_enter Try.func40, Try.ntmps40
  go_wp2
  go_loop [5, 6] (fun x i => UnRel z k x i) (fun _ i => 100 - (intOf i).toNat)
  case atStart => exact .inl ⟨rfl, rfl⟩
  case round =>
    rcases hrel with ⟨rfl, rfl⟩ | ⟨rfl, rfl⟩ | ⟨rfl, rfl⟩
    · go_wp2
      go_round
      case rel =>
        refine .inr (.inl ⟨?_, ?_⟩)
        · rw [bv_shrB, bv_fold]
        · rw [show (k : Int) + (k : Int) = ((2 * k : Nat) : Int) from by omega]
      case measure => simp [intOf]; omega
    · go_wp2
      go_round
      case rel =>
        refine .inr (.inr ⟨?_, ?_⟩)
        · rw [bv_shrB, bv_unfold]
        · rw [show 2 * (k : Int) + (k : Int) = ((3 * k : Nat) : Int) from by omega]
      case measure => simp [intOf]; omega
    · go_wp2
      go_ret
      exact ⟨rfl, rfl⟩

set_option maxHeartbeats 400000 in
theorem Mix_any (x : BitVec 64) (w : World) :
    Calls Try.prog 11 #[.int .u64 x.toNat] w fun e w' => e = .returned (.int .u64 (mixB x).toNat) ∧ w = w' := by
  go_enter Try.func11, Try.ntmps11
  go_wp2_with fail
  rw [bv_stride]
  refine (fold_any _ 30 _ (by omega)).mono ?_
  rintro e w' ⟨rfl, rfl⟩
  go_wp2_with fail
  rw [bv_fact1]
  refine (fold_any _ 27 _ (by omega)).mono ?_
  rintro e w' ⟨rfl, rfl⟩
  go_wp2_with fail
  rw [bv_fact2]
  refine (fold_any _ 31 _ (by omega)).mono ?_
  rintro e w' ⟨rfl, rfl⟩
  go_wp2
  go_ret
  exact ⟨ret_int (by rw [mixB]), rfl⟩

set_option maxHeartbeats 400000 in
theorem Unmix_any (x : BitVec 64) (w : World) :
    Calls Try.prog 13 #[.int .u64 x.toNat] w fun e w' => e = .returned (.int .u64 (unmixB x).toNat) ∧ w = w' := by
  go_enter Try.func13, Try.ntmps13
  go_wp2_with fail
  refine (unfold_any _ 31 _ (by omega) (by omega)).mono ?_
  rintro e w' ⟨rfl, rfl⟩
  go_wp2_with fail
  rw [bv_back2]
  refine (unfold_any _ 27 _ (by omega) (by omega)).mono ?_
  rintro e w' ⟨rfl, rfl⟩
  go_wp2_with fail
  rw [bv_back1]
  refine (unfold_any _ 30 _ (by omega) (by omega)).mono ?_
  rintro e w' ⟨rfl, rfl⟩
  go_wp2
  rw [bv_unstride]
  go_ret
  exact ⟨ret_int (by rw [unmixB]), rfl⟩

set_option maxHeartbeats 400000 in
theorem At_any (s n : BitVec 64) (w : World) :
    Calls Try.prog 15 #[.int .u64 s.toNat, .int .u64 n.toNat] w fun e w' => e = .returned (.int .u64 (atB s n).toNat) ∧ w = w' := by
  go_enter Try.func15, Try.ntmps15
  go_wp2_with fail
  rw [bv_stride_mul, bv_addB]
  refine (Mix_any _ _).mono ?_
  rintro e w' ⟨rfl, rfl⟩
  go_wp2
  go_ret
  exact ⟨ret_int (by rw [atB]), rfl⟩

set_option maxHeartbeats 400000 in
theorem ref_Mix_any (x : BitVec 64) (w : World) :
    Calls Try.prog 12 #[.int .u64 x.toNat] w fun e w' => e = .returned (.int .u64 (mixB x).toNat) ∧ w = w' := by
  go_enter Try.func12, Try.ntmps12
  go_wp2
  simp only [bv_stride, bv_fact1, bv_fact2, bv_tdivB _ 30 1073741824 (by decide), bv_tdivB _ 27 134217728 (by decide), bv_tdivB _ 31 2147483648 (by decide), bv_fold]
  go_ret
  exact ⟨ret_int (by rw [mixB]), rfl⟩

set_option maxHeartbeats 400000 in
theorem ref_At_any (s n : BitVec 64) (w : World) :
    Calls Try.prog 16 #[.int .u64 s.toNat, .int .u64 n.toNat] w fun e w' => e = .returned (.int .u64 (atB s n).toNat) ∧ w = w' := by
  go_enter Try.func16, Try.ntmps16
  go_wp2_with fail
  rw [bv_stride_mul, bv_addB]
  refine (ref_Mix_any _ _).mono ?_
  rintro e w' ⟨rfl, rfl⟩
  go_wp2
  go_ret
  exact ⟨ret_int (by rw [atB]), rfl⟩

set_option maxHeartbeats 400000 in
theorem turned_any (x : BitVec 64) (w : World) :
    Calls Try.prog 42 #[.int .u64 x.toNat] w fun e w' => e = .returned (.int .u64 (turnedB x 6).toNat) ∧ w = w' := by
  go_enter Try.func42, Try.ntmps42
  go_wp2
  go_loop [3, 4] (fun v i => ∃ j : Nat, j ≤ 6 ∧ i = .int .i64 j ∧ v = .int .u64 (turnedB x j).toNat) (fun _ i => 6 - (intOf i).toNat)
  case atStart => exact ⟨0, by omega, rfl, rfl⟩
  case round =>
    obtain ⟨j, hj, rfl, rfl⟩ := hrel
    by_cases hlt : j < 6
    · go_wp2
      go_round
      case rel => exact ⟨j + 1, by omega, by go_num, by rw [bv_turn]; rfl⟩
      case measure => simp [intOf]; omega
    · obtain rfl : j = 6 := by omega
      go_wp2
      go_ret
      exact ⟨rfl, rfl⟩

set_option maxHeartbeats 400000 in
theorem unshift_any (z : BitVec 64) (k : Nat) (w : World) (hk : k < 32) (hk' : 21 < k) :
    Calls Try.prog 41 #[.int .u64 z.toNat, .int .i64 k] w fun e w' => e = .returned (.int .u64 (unfoldB z k).toNat) ∧ w = w' := by
  have HE := Lib.hid (xss3 z k (by omega))
  have hk0 : (k : Int) < 64 := by omega
  go_enter Try.func41, Try.ntmps41
  go_wp2
  go_loop [5, 6] (fun v i => ∃ j : Nat, j ≤ 3 ∧ i = .int .i64 j ∧ v = .int .u64 (xssB z k j).toNat) (fun _ i => 3 - (intOf i).toNat)
  case atStart => exact ⟨0, by omega, rfl, rfl⟩
  case round =>
    obtain ⟨j, hj, rfl, rfl⟩ := hrel
    by_cases hlt : j < 3
    · go_wp2
      go_round
      case rel => exact ⟨j + 1, by omega, by go_num, by rw [bv_shrB, bv_xs]; rfl⟩
      case measure => simp [intOf]; omega
    · obtain rfl : j = 3 := by omega
      go_wp2
      go_ret
      exact ⟨by rw [← HE.out]; rfl, rfl⟩

set_option maxHeartbeats 400000 in
theorem ref_Unmix_any (x : BitVec 64) (w : World) :
    Calls Try.prog 14 #[.int .u64 x.toNat] w fun e w' => e = .returned (.int .u64 (unmixB x).toNat) ∧ w = w' := by
  have T1 := turned_any fact1
  have T2 := turned_any fact2
  rw [turned1, fact1_nat, back1_nat] at T1
  rw [turned2, fact2_nat, back2_nat] at T2
  have H1 := Lib.hid T1
  have H2 := Lib.hid T2
  clear T1 T2
  go_enter Try.func14, Try.ntmps14
  go_wp2_with fail
  refine (unshift_any _ 31 _ (by omega) (by omega)).mono ?_
  rintro e w' ⟨rfl, rfl⟩
  go_wp2_with fail
  refine (H2.out _).mono ?_
  rintro e w' ⟨rfl, rfl⟩
  go_wp2_with fail
  rw [bv_back2]
  refine (unshift_any _ 27 _ (by omega) (by omega)).mono ?_
  rintro e w' ⟨rfl, rfl⟩
  go_wp2_with fail
  refine (H1.out _).mono ?_
  rintro e w' ⟨rfl, rfl⟩
  go_wp2_with fail
  rw [bv_back1]
  refine (unshift_any _ 30 _ (by omega) (by omega)).mono ?_
  rintro e w' ⟨rfl, rfl⟩
  go_wp2
  rw [bv_unstride]
  go_ret
  exact ⟨ret_int (by rw [unmixB]), rfl⟩

/-- What the school's way of multiplying reckons, told in natural numbers. -/
theorem maskN64 (a : Nat) (ha : a < 18446744073709551616) : bits .and .u64 (a : Int) 4294967295 = ((a % 4294967296 : Nat) : Int) := by
  have h := and_ones (a : Int) 32 (by omega) (by omega) (by omega)
  have e1 : (2 : Int) ^ 32 = 4294967296 := by decide
  rw [e1] at h
  rw [show (4294967295 : Int) = 4294967296 - 1 from rfl, h]
  omega
theorem divN64 (a : Nat) : (a : Int) / 4294967296 = ((a / 4294967296 : Nat) : Int) := by omega
theorem mulN64 (a b : Nat) : (a : Int) * (b : Int) = ((a * b : Nat) : Int) := (Int.natCast_mul a b).symm
theorem addN64 (a b : Nat) : (a : Int) + (b : Int) = ((a + b : Nat) : Int) := (Int.natCast_add a b).symm
theorem wrapN64 (a : Nat) (ha : a < 18446744073709551616) : IntKind.u64.wrap (a : Int) = (a : Int) := by rw [IntKind.wrap_u64]; omega
theorem wrapM64 (a : Nat) : IntKind.u64.wrap (a : Int) = ((a % 18446744073709551616 : Nat) : Int) := by rw [IntKind.wrap_u64]; omega

set_option maxHeartbeats 1000000 in
theorem Mul64_any (x y : Nat) (w : World) (hx : x < 18446744073709551616) (hy : y < 18446744073709551616) :
    Calls Try.prog 43 #[.int .u64 x, .int .u64 y] w fun e w' => e = .returned (.tuple #[.int .u64 ((x * y / 18446744073709551616 : Nat) : Int), .int .u64 ((x * y % 18446744073709551616 : Nat) : Int)]) ∧ w = w' := by
  obtain ⟨bd, bt, bw, hhi⟩ := Lib.mul64_hi x y hx hy
  have ba := Lib.half_mul_le (a := x / 4294967296) (b := y / 4294967296) (by omega) (by omega)
  have bb := Lib.half_mul_le (a := x / 4294967296) (b := y % 4294967296) (by omega) (by omega)
  have bc := Lib.half_mul_le (a := x % 4294967296) (b := y / 4294967296) (by omega) (by omega)
  have ba' : x / 4294967296 * (y / 4294967296) < 18446744073709551616 := by omega
  have bb' : x / 4294967296 * (y % 4294967296) < 18446744073709551616 := by omega
  have bc' : x % 4294967296 * (y / 4294967296) < 18446744073709551616 := by omega
  have bh1 : x / 4294967296 * (y / 4294967296) + (x / 4294967296 * (y % 4294967296) + x % 4294967296 * (y % 4294967296) / 4294967296) / 4294967296 < 18446744073709551616 := by omega
  have bh : x / 4294967296 * (y / 4294967296) + (x / 4294967296 * (y % 4294967296) + x % 4294967296 * (y % 4294967296) / 4294967296) / 4294967296 + ((x / 4294967296 * (y % 4294967296) + x % 4294967296 * (y % 4294967296) / 4294967296) % 4294967296 + x % 4294967296 * (y / 4294967296)) / 4294967296 < 18446744073709551616 := by omega
  go_enter Try.func43, Try.ntmps43
  go_wp2
  simp only [maskN64 x hx, maskN64 y hy, divN64, mulN64, addN64, wrapN64 _ bd, wrapN64 _ bb', wrapN64 _ bt, maskN64 _ bt, wrapN64 _ bc', wrapN64 _ bw, wrapN64 _ ba', wrapN64 _ bh1, wrapN64 _ bh, wrapM64 (x * y)]
  rw [hhi]
  go_ret2
  exact ⟨rfl, rfl⟩

set_option maxHeartbeats 400000 in
theorem Below_any (x n : Nat) (w : World) (hx : x < 18446744073709551616) (hn : n < 18446744073709551616) :
    Calls Try.prog 17 #[.int .u64 x, .int .u64 n] w fun e w' => e = .returned (.int .u64 ((x * n / 18446744073709551616 : Nat) : Int)) ∧ w = w' := by
  have H := Mul64_any x n w hx hn
  generalize x * n / 18446744073709551616 = hi at *
  generalize x * n % 18446744073709551616 = lo at *
  go_enter Try.func17, Try.ntmps17
  go_wp2_with fail
  refine H.mono ?_
  rintro e w' ⟨rfl, rfl⟩
  go_wp2
  go_ret
  exact ⟨rfl, rfl⟩

theorem modN (a : Nat) : (a : Int) % 4294967296 = ((a % 4294967296 : Nat) : Int) := by omega
theorem tmodN (a : Nat) : (a : Int).tmod 4294967296 = ((a % 4294967296 : Nat) : Int) := by rw [Int.tmod_eq_emod_of_nonneg (by omega)]; omega

set_option maxHeartbeats 1000000 in
theorem ref_Below_any (x y : Nat) (w : World) (hx : x < 18446744073709551616) (hy : y < 18446744073709551616) :
    Calls Try.prog 18 #[.int .u64 x, .int .u64 y] w fun e w' => e = .returned (.int .u64 ((x * y / 18446744073709551616 : Nat) : Int)) ∧ w = w' := by
  obtain ⟨bd, bt, bw, hhi⟩ := Lib.mul64_hi x y hx hy
  have ba := Lib.half_mul_le (a := x / 4294967296) (b := y / 4294967296) (by omega) (by omega)
  have bb := Lib.half_mul_le (a := x / 4294967296) (b := y % 4294967296) (by omega) (by omega)
  have bc := Lib.half_mul_le (a := x % 4294967296) (b := y / 4294967296) (by omega) (by omega)
  have ba' : x / 4294967296 * (y / 4294967296) < 18446744073709551616 := by omega
  have bb' : x / 4294967296 * (y % 4294967296) < 18446744073709551616 := by omega
  have bc' : x % 4294967296 * (y / 4294967296) < 18446744073709551616 := by omega
  have bh1 : x / 4294967296 * (y / 4294967296) + (x / 4294967296 * (y % 4294967296) + x % 4294967296 * (y % 4294967296) / 4294967296) / 4294967296 < 18446744073709551616 := by omega
  have bh : x / 4294967296 * (y / 4294967296) + (x / 4294967296 * (y % 4294967296) + x % 4294967296 * (y % 4294967296) / 4294967296) / 4294967296 + ((x / 4294967296 * (y % 4294967296) + x % 4294967296 * (y % 4294967296) / 4294967296) % 4294967296 + x % 4294967296 * (y / 4294967296)) / 4294967296 < 18446744073709551616 := by omega
  go_enter Try.func18, Try.ntmps18
  go_wp2
  simp only [modN, divN64, mulN64, addN64, wrapN64 _ bd, wrapN64 _ bb', wrapN64 _ bt, tmodN, wrapN64 _ bc', wrapN64 _ bw, wrapN64 _ ba', wrapN64 _ bh1, wrapN64 _ bh]
  rw [hhi]
  go_ret
  exact ⟨rfl, rfl⟩

/-- What is below m of the draw at place l of a seed; and the level to which a draw leads, from l on. -/
def belN (d : BitVec 64) (l m : Nat) : Nat := (atB d (BitVec.ofNat 64 l)).toNat * m / 18446744073709551616
def levF (d : BitVec 64) (m : Nat) : Nat → Nat → Nat
  | 0, l => l
  | n + 1, l => if belN d l m = 0 then levF d m n (l + 1) else l
def levN (d : BitVec 64) (m : Nat) : Nat := levF d m 7 0
theorem levF_step (d : BitVec 64) (m l : Nat) (h : l < 7) : levF d m (7 - l) l = if belN d l m = 0 then levF d m (7 - (l + 1)) (l + 1) else l := by
  obtain ⟨n, hn⟩ : ∃ n, 7 - l = n + 1 := ⟨6 - l, by omega⟩
  rw [hn, levF, show 7 - (l + 1) = n from by omega]
theorem levF_end (d : BitVec 64) (m : Nat) : levF d m (7 - 7) 7 = 7 := rfl

theorem nat_bv (n : Nat) (h : n < 18446744073709551616) : (n : Int) = ((BitVec.ofNat 64 n).toNat : Int) := by
  rw [BitVec.toNat_ofNat]
  omega
theorem At_num (s : BitVec 64) (n : Nat) (w : World) (h : n < 18446744073709551616) :
    Calls Try.prog 15 #[.int .u64 s.toNat, .int .u64 n] w fun e w' => e = .returned (.int .u64 (atB s (BitVec.ofNat 64 n)).toNat) ∧ w = w' := by
  rw [nat_bv n h]
  exact At_any _ _ _
theorem ref_At_num (s : BitVec 64) (n : Nat) (w : World) (h : n < 18446744073709551616) :
    Calls Try.prog 16 #[.int .u64 s.toNat, .int .u64 n] w fun e w' => e = .returned (.int .u64 (atB s (BitVec.ofNat 64 n)).toNat) ∧ w = w' := by
  rw [nat_bv n h]
  exact ref_At_any _ _ _
theorem Below_at (d : BitVec 64) (l m : Nat) (w : World) (hm : m < 18446744073709551616) :
    Calls Try.prog 17 #[.int .u64 (atB d (BitVec.ofNat 64 l)).toNat, .int .u64 m] w fun e w' => e = .returned (.int .u64 (belN d l m)) ∧ w = w' := Below_any _ _ _ (atB d (BitVec.ofNat 64 l)).isLt hm
theorem ref_Below_at (d : BitVec 64) (l m : Nat) (w : World) (hm : m < 18446744073709551616) :
    Calls Try.prog 18 #[.int .u64 (atB d (BitVec.ofNat 64 l)).toNat, .int .u64 m] w fun e w' => e = .returned (.int .u64 (belN d l m)) ∧ w = w' := ref_Below_any _ _ _ (atB d (BitVec.ofNat 64 l)).isLt hm

/-- The links that a level reckons with. -/
def clampN (links : Int) : Nat := if links < 2 then 2 else if 32 < links then 32 else links.toNat

/-- What holds at each jump. -/
def LevJ (d : BitVec 64) (links : Int) (m : Nat) (w : World) (a : Act) (w' : World) : Prop :=
  w = w' ∧ ∃ (l : Nat) (u7 u8 u9 u10 u11 u12 u13 u14 u15 u16 u17 u18 u19 u20 u21 u22 u23 : Value), l ≤ 7 ∧ Hid (levF d m (7 - l) l = levN d m) ∧
    a = { tmps := #[.int .u64 d.toNat, .int .i64 links, undef, undef, .int .i64 0, .int .u64 m, .int .i64 l, u7, u8, u9, u10, u11, u12, u13, u14, u15, u16, u17, u18, u19, u20, u21, u22, u23, undef], defers := [] }

theorem beq0 {q : Nat} (h : q = 0) : ((q : Int) == 0) = true := by simp [h]
theorem bne0 {q : Nat} (h : ¬ q = 0) : ((q : Int) == 0) = false := by simp [h]

set_option maxHeartbeats 1000000 in
theorem Level_any (d : BitVec 64) (links : Int) (w : World) :
    Calls Try.prog 19 #[.int .u64 d.toNat, .int .i64 links] w fun e w' => e = .returned (.int .i64 (levN d (clampN links))) ∧ w = w' := by
  obtain ⟨m, hm0, hm1, HC, hcase⟩ : ∃ m : Nat, 2 ≤ m ∧ m ≤ 32 ∧ Hid (clampN links = m) ∧ ((links < 2 ∧ m = 2) ∨ (links = (m : Int)) ∨ (32 < links ∧ m = 32)) := by
    unfold clampN
    by_cases h2 : links < 2
    · exact ⟨2, by omega, by omega, by rw [Hid, if_pos h2], .inl ⟨h2, rfl⟩⟩
    · by_cases h3 : 32 < links
      · exact ⟨32, by omega, by omega, by rw [Hid, if_neg h2, if_pos h3], .inr (.inr ⟨h3, rfl⟩)⟩
      · exact ⟨links.toNat, by omega, by omega, by rw [Hid, if_neg h2, if_neg h3], .inr (.inl (by omega))⟩
  have hmm : m < 18446744073709551616 := by omega
  have HM := Lib.hid hmm
  clear hmm
  go_enter Try.func19, Try.ntmps19
  go_wp2
  refine wp_scope_jumps 0 (LevJ d links m w) (fun a' _ => 7 - (intOf (a'.tmps.getD 6 undef)).toNat) rfl ?_ ?_
  · have hs := Lib.hid (levF_step d m 0 (by omega))
    by_cases hq : belN d 0 m = 0
    · have hb := beq0 hq
      have HS : Hid (levF d m (7 - (0 + 1)) (0 + 1) = levN d m) := by
        have := hs.out
        rw [if_pos hq] at this
        exact this.symm
      clear hq
      rcases hcase with ⟨h2, rfl⟩ | rfl | ⟨h2, rfl⟩
      all_goals
        go_wp2
        go_step3
        go_wp2_with fail
        refine (At_num d 0 _ (by omega)).mono ?_
        rintro e w' ⟨rfl, rfl⟩
        go_wp2_with fail
        refine (Below_at d 0 _ _ HM.out).mono ?_
        rintro e w' ⟨rfl, rfl⟩
        go_wp2
        go_step3
        exact ⟨rfl, rfl, 0 + 1, _, _, _, _, _, _, _, _, _, _, _, _, _, _, _, _, _, by omega, HS, rfl⟩
    · have hb := bne0 hq
      have HS : Hid (levN d m = 0) := by
        have := hs.out
        rw [if_neg hq] at this
        exact this
      clear hq
      rcases hcase with ⟨h2, rfl⟩ | rfl | ⟨h2, rfl⟩
      all_goals
        go_wp2
        go_step3
        go_wp2_with fail
        refine (At_num d 0 _ (by omega)).mono ?_
        rintro e w' ⟨rfl, rfl⟩
        go_wp2_with fail
        refine (Below_at d 0 _ _ HM.out).mono ?_
        rintro e w' ⟨rfl, rfl⟩
        go_wp2
        simp only [Exit.jump]
        go_ret
        exact ⟨ret_int (by rw [HC.out, HS.out]; rfl), rfl⟩
  · clear hcase
    rintro a' w' ⟨rfl, l, u7, u8, u9, u10, u11, u12, u13, u14, u15, u16, u17, u18, u19, u20, u21, u22, u23, hl, HL, rfl⟩
    by_cases hlt : l < 7
    · have hs := Lib.hid (levF_step d m l hlt)
      by_cases hq : belN d l m = 0
      · have hb := beq0 hq
        have HS : Hid (levF d m (7 - (l + 1)) (l + 1) = levN d m) := by rw [Hid, ← HL.out, hs.out, if_pos hq]
        clear hq
        go_wp2_with fail
        refine (At_num d l _ (by omega)).mono ?_
        rintro e w' ⟨rfl, rfl⟩
        go_wp2_with fail
        refine (Below_at d l _ _ HM.out).mono ?_
        rintro e w' ⟨rfl, rfl⟩
        go_wp2
        go_step3
        refine ⟨rfl, ⟨rfl, l + 1, _, _, _, _, _, _, _, _, _, _, _, _, _, _, _, _, _, by omega, HS, rfl⟩, ?_⟩
        simp [intOf]
        omega
      · have hb := bne0 hq
        have HS : Hid (levN d m = l) := by rw [Hid, ← HL.out, hs.out, if_neg hq]
        clear hq
        go_wp2_with fail
        refine (At_num d l _ (by omega)).mono ?_
        rintro e w' ⟨rfl, rfl⟩
        go_wp2_with fail
        refine (Below_at d l _ _ HM.out).mono ?_
        rintro e w' ⟨rfl, rfl⟩
        go_wp2
        simp only [Exit.jump]
        go_ret
        exact ⟨ret_int (by rw [HC.out, HS.out]), rfl⟩
    · obtain rfl : l = 7 := by omega
      have HS : Hid (levN d m = 7) := HL.out.symm
      go_wp2
      simp only [Exit.jump]
      go_ret
      exact ⟨ret_int (by rw [HC.out, HS.out]; rfl), rfl⟩

theorem bne0' {q : Nat} (h : q = 0) : ((q : Int) != 0) = false := by simp [h]
theorem beq0' {q : Nat} (h : ¬ q = 0) : ((q : Int) != 0) = true := by simp [h]

set_option maxHeartbeats 1000000 in
theorem ref_Level_any (d : BitVec 64) (links : Int) (w : World) :
    Calls Try.prog 20 #[.int .u64 d.toNat, .int .i64 links] w fun e w' => e = .returned (.int .i64 (levN d (clampN links))) ∧ w = w' := by
  obtain ⟨m, hm0, hm1, HC, hcase⟩ : ∃ m : Nat, 2 ≤ m ∧ m ≤ 32 ∧ Hid (clampN links = m) ∧ ((links < 2 ∧ m = 2) ∨ (links = (m : Int)) ∨ (32 < links ∧ m = 32)) := by
    unfold clampN
    by_cases h2 : links < 2
    · exact ⟨2, by omega, by omega, by rw [Hid, if_pos h2], .inl ⟨h2, rfl⟩⟩
    · by_cases h3 : 32 < links
      · exact ⟨32, by omega, by omega, by rw [Hid, if_neg h2, if_pos h3], .inr (.inr ⟨h3, rfl⟩)⟩
      · exact ⟨links.toNat, by omega, by omega, by rw [Hid, if_neg h2, if_neg h3], .inr (.inl (by omega))⟩
  have hmm : m < 18446744073709551616 := by omega
  have HM := Lib.hid hmm
  clear hmm
  go_enter Try.func20, Try.ntmps20
  go_upto_region 1 with (fail)
  go_cut [5] (fun v wx => v = .int .i64 m ∧ w = wx)
  case first =>
    rcases hcase with ⟨h2, rfl⟩ | rfl | ⟨h2, rfl⟩
    all_goals
      go_wp2_with fail
      go_meet
      exact ⟨rfl, rfl⟩
  case rest =>
    obtain ⟨rfl, rfl⟩ := hcut
    clear hcase
    go_wp2
    go_loop [6] (fun i => ∃ l : Nat, l ≤ 7 ∧ i = .int .i64 l ∧ Hid (levF d m (7 - l) l = levN d m)) (fun i => 7 - (intOf i).toNat)
    case atStart => exact ⟨0, by omega, rfl, rfl⟩
    case round =>
      obtain ⟨l, hl, rfl, HL⟩ := hrel
      by_cases hlt : l < 7
      · have hs := Lib.hid (levF_step d m l hlt)
        by_cases hq : belN d l m = 0
        · have hb := bne0' hq
          have HS : Hid (levF d m (7 - (l + 1)) (l + 1) = levN d m) := by rw [Hid, ← HL.out, hs.out, if_pos hq]
          clear hq
          go_wp2_with fail
          refine (ref_At_num d l _ (by omega)).mono ?_
          rintro e w' ⟨rfl, rfl⟩
          go_wp2_with fail
          refine (ref_Below_at d l _ _ HM.out).mono ?_
          rintro e w' ⟨rfl, rfl⟩
          go_wp2
          go_round
          case rel => exact ⟨l + 1, by omega, by go_num, HS⟩
          case measure => simp [intOf]; omega
        · have hb := beq0' hq
          have HS : Hid (levN d m = l) := by rw [Hid, ← HL.out, hs.out, if_neg hq]
          clear hq
          go_wp2_with fail
          refine (ref_At_num d l _ (by omega)).mono ?_
          rintro e w' ⟨rfl, rfl⟩
          go_wp2_with fail
          refine (ref_Below_at d l _ _ HM.out).mono ?_
          rintro e w' ⟨rfl, rfl⟩
          go_wp2
          go_ret
          exact ⟨ret_int (by rw [HC.out, HS.out]), rfl⟩
      · obtain rfl : l = 7 := by omega
        have HS : Hid (levN d m = 7) := HL.out.symm
        go_wp2
        go_ret
        exact ⟨ret_int (by rw [HC.out, HS.out]; rfl), rfl⟩

end Go.Proofs.Ytbedlaggmlckdaa
