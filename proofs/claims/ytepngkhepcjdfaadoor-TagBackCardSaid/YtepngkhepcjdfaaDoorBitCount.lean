/- math/bits.OnesCount64 by contract: it counts the bits that are set. -/
import Derived.Test.YtepngkhepcjdfaaDoorBitPlain
import Derived.Test.YtepngkhepcjdfaaDoorPackPlain
namespace Go.Proofs.YtepngkhepcjdfaaDoor
open Go.RowKit

theorem bits_and_i64 (x y : Nat) (hx : x < 9223372036854775808) (hy : y < 9223372036854775808) : bits .and .i64 (x : Int) (y : Int) = ((x &&& y : Nat) : Int) := by
  have hb : x &&& y < 2 ^ 63 := Nat.and_lt_two_pow _ (by omega)
  show IntKind.i64.wrap ((BitVec.ofInt 64 (x : Int) &&& BitVec.ofInt 64 (y : Int)).toNat : Int) = _
  rw [BitVec.toNat_and, toNat_ofInt_u64 _ (by omega) (by omega), toNat_ofInt_u64 _ (by omega) (by omega), IntKind.wrap_i64, Int.toNat_natCast, Int.toNat_natCast]
  omega

theorem ofBytes_lt (bs : List Nat) (h : ∀ b ∈ bs, b < 256) : ofBytes bs < 256 ^ bs.length := by
  induction bs with
  | nil => decide
  | cons b r ih =>
    have hb := h b (List.mem_cons_self ..)
    have hr := ih (fun x hx => h x (List.mem_cons_of_mem _ hx))
    simp only [ofBytes, List.length_cons, Nat.pow_succ]
    omega

theorem ofBytes_small (bs : List Nat) (h : ∀ b ∈ bs, b ≤ 68) : 3 * ofBytes bs < 256 ^ bs.length := by
  induction bs with
  | nil => decide
  | cons b r ih =>
    have hb := h b (List.mem_cons_self ..)
    have hr := ih (fun x hx => h x (List.mem_cons_of_mem _ hx))
    simp only [ofBytes, List.length_cons, Nat.pow_succ]
    omega

theorem sum_list (ps : List Nat) (hl : ps.length = 8) (h : ∀ p ∈ ps, p ≤ 8) (y : Nat) (hy : y = ofBytes ps) :
    y < 1152921504606846976 ∧ (y + y / 256) < 2305843009213693952 ∧ (y + y / 256) + (y + y / 256) / 65536 < 4611686018427387904 ∧
      ((y + y / 256) + (y + y / 256) / 65536 + ((y + y / 256) + (y + y / 256) / 65536) / 4294967296) < 9223372036854775808 ∧
      ((y + y / 256) + (y + y / 256) / 65536 + ((y + y / 256) + (y + y / 256) / 65536) / 4294967296) % 128 = ps.sum := by
  match ps, hl with
  | [p0, p1, p2, p3, p4, p5, p6, p7], _ =>
    have e := sum_eight p0 p1 p2 p3 p4 p5 p6 p7 y (h _ (by simp)) (h _ (by simp)) (h _ (by simp)) (h _ (by simp)) (h _ (by simp)) (h _ (by simp)) (h _ (by simp)) (h _ (by simp)) hy
    rw [show (2 : Nat) ^ 60 = 1152921504606846976 from by decide, show (2 : Nat) ^ 61 = 2305843009213693952 from by decide, show (2 : Nat) ^ 62 = 4611686018427387904 from by decide, show (2 : Nat) ^ 63 = 9223372036854775808 from by decide] at e
    refine ⟨e.1, e.2.1, e.2.2.1, e.2.2.2.1, e.2.2.2.2.trans ?_⟩
    simp only [List.sum_cons, List.sum_nil, Nat.add_zero, Nat.add_assoc]

/-- What the seven lines reckon, each from the one ahead. -/
theorem count_chain (X : Nat) (hX : X < 18446744073709551616) : ∃ x1 x2 x3 x4 x5 x6 : Nat,
    (X / 2 &&& 6148914691236517205) + (X &&& 6148914691236517205) = x1 ∧ x1 < 18446744073709551616 ∧ (x1 / 4 &&& 3689348814741910323) + (x1 &&& 3689348814741910323) = x2 ∧ x2 / 16 + x2 < 18446744073709551616 ∧
    ((x2 / 16 + x2) &&& 1085102592571150095) = x3 ∧ x3 + x3 / 256 = x4 ∧ x4 + x4 / 65536 = x5 ∧ x5 + x5 / 4294967296 = x6 ∧ x6 % 128 = pop 64 X ∧ x3 < 1152921504606846976 ∧ x4 < 2305843009213693952 ∧ x5 < 4611686018427387904 ∧ x6 < 9223372036854775808 := by
  have hb := toBytes_lt 8 X
  have hl := toBytes_length 8 X
  have hx := ofBytes_toBytes 8 X (by rw [show (256 : Nat) ^ 8 = 18446744073709551616 from by decide]; exact hX)
  have hp := pop_bytes 8 X
  generalize toBytes 8 X = bs at *
  have s1 := step_pairs bs hb
  have hb1 : ∀ b ∈ bs.map pairs, b < 256 := by
    intro b hm
    obtain ⟨a, ha, rfl⟩ := List.mem_map.1 hm
    exact pairs_le a (hb a ha)
  have s2 := step_fours (bs.map pairs) hb1
  have hb2 : ∀ b ∈ (bs.map pairs).map fours, b < 256 ∧ b / 16 ≤ 4 ∧ b % 16 ≤ 4 := by
    intro b hm
    obtain ⟨a, ha, rfl⟩ := List.mem_map.1 hm
    obtain ⟨a', ha', rfl⟩ := List.mem_map.1 ha
    have := byte_all a' (hb a' ha')
    exact ⟨this.2.2.1, this.1, this.2.1⟩
  have s3 := step_eights ((bs.map pairs).map fours) hb2
  have hpop : ((bs.map pairs).map fours).map eights = bs.map (pop 8) := by
    rw [List.map_map, List.map_map]
    apply List.map_congr_left
    intro a ha
    exact (byte_all a (hb a ha)).2.2.2
  have m0 : rep 85 8 = 6148914691236517205 := by decide
  have m1 : rep 51 8 = 3689348814741910323 := by decide
  have m2 : rep 15 8 = 1085102592571150095 := by decide
  have l1 := ofBytes_lt (bs.map pairs) hb1
  have l2 := ofBytes_lt ((bs.map pairs).map fours) (fun b hm => (hb2 b hm).1)
  have p8 : (256 : Nat) ^ 8 = 18446744073709551616 := by decide
  rw [List.length_map, hl, p8] at l1
  rw [List.length_map, List.length_map, hl, p8] at l2
  rw [hx, hl, m0] at s1
  rw [List.length_map, hl, m1] at s2
  have s31 := s3.2
  rw [hpop, List.length_map, List.length_map, hl, m2] at s31
  have hle : ∀ b ∈ (bs.map pairs).map fours, b ≤ 68 := by
    intro b hm
    have := hb2 b hm
    omega
  have l4 := ofBytes_small ((bs.map pairs).map fours) hle
  rw [List.length_map, List.length_map, hl, p8] at l4
  have l3 : ofBytes ((bs.map pairs).map fours) / 16 + ofBytes ((bs.map pairs).map fours) < 18446744073709551616 := by
    generalize ofBytes ((bs.map pairs).map fours) = z at l4
    clear s1 s2 s3 s31 hp hx
    omega
  clear l4 l2 hle
  have hps : ∀ p ∈ bs.map (pop 8), p ≤ 8 := by
    intro p hm
    obtain ⟨a, _, rfl⟩ := List.mem_map.1 hm
    exact pop_le 8 a
  have hpl : (bs.map (pop 8)).length = 8 := by rw [List.length_map, hl]
  rw [show 8 * 8 = 64 from rfl] at hp
  generalize bs.map (pop 8) = ps at *
  obtain ⟨q1, q2, q3, q4, q5⟩ := sum_list ps hpl hps _ rfl
  rw [← hp] at q5
  exact ⟨_, _, _, _, _, _, s1, l1, s2, l3, s31, rfl, rfl, rfl, q5, q1, q2, q3, q4⟩

theorem two_ands (X d M x1 : Nat) (hX : X < 18446744073709551616) (hM : M < 18446744073709551616) (h : (X / d &&& M) + (X &&& M) = x1) (h1 : x1 < 18446744073709551616) :
    IntKind.u64.wrap (bits .and .u64 ((X : Int) / (d : Int)) (M : Int) + bits .and .u64 (X : Int) (M : Int)) = (x1 : Int) := by
  have hle : X / d ≤ X := Nat.div_le_self _ _
  have hc : (X : Int) / (d : Int) = ((X / d : Nat) : Int) := by simp
  rw [hc]
  clear hc
  generalize X / d = q at *
  rw [bits_and_u64 (q : Int) (M : Int) (by omega) (by omega) (by omega) (by omega), bits_and_u64 (X : Int) (M : Int) (by omega) (by omega) (by omega) (by omega), IntKind.wrap_u64]
  simp only [Int.toNat_natCast]
  omega

/-- How many bits of a word are set. -/
def ones (x : Int) : Nat := pop 64 x.toNat
theorem ones_le (x : Int) : ones x ≤ 64 := pop_le 64 x.toNat
theorem ones_eq (x : Int) : ones x = pop 64 x.toNat := rfl
attribute [irreducible] ones
/-- How many numbers are in words. -/
def onesSum (zs : List Int) : Nat := (zs.map ones).sum
def cntS (zs : List Int) : Nat := onesSum (zs.take 64)

theorem cnt_step (zs : List Int) (k : Nat) (hk : k < zs.length) : onesSum (zs.take (k + 1)) = onesSum (zs.take k) + ones zs[k] := by
  unfold onesSum
  rw [List.take_add_one, List.getElem?_eq_getElem hk, List.map_append, List.sum_append]
  simp

theorem cnt_le (zs : List Int) : onesSum zs ≤ 64 * zs.length := by
  unfold onesSum
  induction zs with
  | nil => simp
  | cons z r ih =>
    have := ones_le z
    simp only [List.map_cons, List.sum_cons, List.length_cons]
    omega

set_option maxHeartbeats 1000000 in
theorem OnesCount64_any (x : Int) (w : World) (h0 : 0 ≤ x) (h1 : x ≤ 18446744073709551615) :
    Calls Tryd.prog 48 #[.int .u64 x] w fun e w' => e = .returned (.int .i64 (ones x)) ∧ w = w' := by
  rw [ones_eq]
  obtain ⟨X, rfl⟩ := Int.eq_ofNat_of_zero_le h0
  obtain ⟨x1, x2, x3, x4, x5, x6, e1, b1, e2, b2, e3, e4, e5, e6, e7, b3, b4, b5, b6⟩ := count_chain X (by omega)
  have H1 : IntKind.u64.wrap (bits .and .u64 ((X : Int) / 2) 6148914691236517205 + bits .and .u64 (X : Int) 6148914691236517205) = (x1 : Int) := two_ands X 2 6148914691236517205 x1 (by omega) (by decide) e1 b1
  have hx2 : x2 < 18446744073709551616 := by omega
  have H2 : IntKind.u64.wrap (bits .and .u64 ((x1 : Int) / 4) 3689348814741910323 + bits .and .u64 (x1 : Int) 3689348814741910323) = (x2 : Int) := two_ands x1 4 3689348814741910323 x2 b1 (by decide) e2 hx2
  have H3 : bits .and .u64 ((x2 : Int) / 16 + (x2 : Int)) 1085102592571150095 = (x3 : Int) := by
    have hc : (x2 : Int) / 16 + (x2 : Int) = ((x2 / 16 + x2 : Nat) : Int) := by omega
    rw [hc, bits_and_u64 ((x2 / 16 + x2 : Nat) : Int) 1085102592571150095 (by omega) (by omega) (by omega) (by omega), Int.toNat_natCast]
    exact congrArg Int.ofNat e3
  have H4 : (x3 : Int) + (x3 : Int) / 256 = (x4 : Int) := by omega
  have H5 : (x4 : Int) + (x4 : Int) / 65536 = (x5 : Int) := by omega
  have H6 : (x5 : Int) + (x5 : Int) / 4294967296 = (x6 : Int) := by omega
  have H7 : bits .and .i64 (x6 : Int) 127 = ((pop 64 X : Nat) : Int) := by
    have := bits_and_i64 x6 127 b6 (by decide)
    rw [show (127 : Nat) = 2 ^ 7 - 1 from rfl, Nat.and_two_pow_sub_one_eq_mod] at this
    rw [← e7]
    exact this
  have hb2 : (x2 : Int) / 16 + (x2 : Int) ≤ 18446744073709551615 := by omega
  have hb3 : (x3 : Int) ≤ 1152921504606846975 := by omega
  have hb4 : (x4 : Int) ≤ 2305843009213693951 := by omega
  have hb5 : (x5 : Int) ≤ 4611686018427387903 := by omega
  have hb6 : (x6 : Int) ≤ 9223372036854775807 := by omega
  clear e1 b1 e2 b2 e3 e4 e5 e6 e7 b3 b4 b5 b6 hx2
  rw [Int.toNat_natCast]
  generalize pop 64 X = R at *
  go_enter Tryd.func48, Tryd.ntmps48
  go_wp2
  go_ret
  exact ⟨rfl, rfl⟩

end Go.Proofs.YtepngkhepcjdfaaDoor
