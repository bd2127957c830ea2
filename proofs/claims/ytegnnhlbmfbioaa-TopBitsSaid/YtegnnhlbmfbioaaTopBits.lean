/- The stage's theorem TopBits: its walk. -/
import Derived.Test.YtegnnhlbmfbioaaTopPlaces
import Derived.Test.YtegnnhlbmfbioaaBitWords
namespace Go.Proofs.Ytegnnhlbmfbioaa
open Go.RowKit

/-- Sixty-four widths of one. -/
def ones64 : List Int := List.replicate 64 1
theorem ones64_length : ones64.length = 64 := by decide
theorem ones64_cw : cw 64 ones64 = 0 := by decide
theorem ones64_sum : sumW ones64 = 64 := by decide

theorem fieldsL_ones (x : Int) (m k : Nat) (hk : k < m) : (fieldsL x (List.replicate m 1))[k]? = some (x / 2 ^ k % 2) := by
  induction m generalizing x k with
  | zero => omega
  | succ m ih =>
    rw [List.replicate_succ, fieldsL]
    cases k with
    | zero => simp
    | succ k =>
      rw [List.getElem?_cons_succ, show (2 : Int) ^ (1 : Int).toNat = 2 from rfl, ih (x / 2) k (by omega), Int.ediv_ediv_of_nonneg (by decide), Int.pow_succ, Int.mul_comm]

theorem fld_ones (x : Int) : fldL x ones64 = fieldsL x ones64 := by unfold fldL; rw [if_pos ones64_cw]

theorem join_ones (x : Int) (h0 : 0 ≤ x) (h1 : x ≤ 18446744073709551615) : joinL (fldL x ones64) ones64 = (x, 0) := by
  unfold joinL
  rw [if_pos ones64_cw, fld_ones, if_pos (fieldsL_length x ones64), join_fields 0 0 x ones64 64 ones64_cw, ones64_sum, Int.emod_eq_of_lt h0 (by rw [p64]; omega)]
  simp

theorem pop_bit (k X : Nat) : pop (k + 1) X = pop k X + X / 2 ^ k % 2 := by
  rw [pop_add k 1 X, pop]
  simp [pop]

theorem has_one (x : Int) (k : Nat) (hk : k < 64) : hasB [x] k = (x / 2 ^ k % 2 == 1) := by
  unfold hasB
  rw [decide_eq_true (by omega : (0 : Int) ≤ (k : Int)), decide_eq_true (by omega : (k : Int) < 4096)]
  rw [show ((k : Int) / 64).toNat = 0 from by omega, show ((k : Int) % 64).toNat = k from by omega]
  rfl

theorem less_self (x : Int) (h0 : 0 ≤ x) (h1 : x ≤ 18446744073709551615) : trimR (zipL andNotF [x] [x]) = [] := by
  have h := andNot_mod x 64 h0 h1
  rw [Int.emod_eq_of_lt h0 (by rw [p64]; omega)] at h
  have e : zipL andNotF [x] [x] = [andNotF x x] := rfl
  rw [e]
  unfold andNotF
  rw [h]
  rfl

theorem Fields_ones (x : Int) (b : Nat) (w : World) (h0 : 0 ≤ x) (h1 : x ≤ 18446744073709551615) (hR : Rd (Value.int .i64) w w.heap.size (some ⟨b, 0, none⟩) ones64) :
    Calls Try.prog 9 #[.int .u64 x, .slice (some ⟨b, 0, none⟩) 64 64] w fun e w' =>
      ∃ A c, e = .returned (.tuple #[.slice A 64 c, .int .i64 0]) ∧ Rd (Value.int .u64) w' w'.heap.size A (fldL x ones64) ∧ Below w.heap.size w w' := by
  have h := Fields_any x (some ⟨b, 0, none⟩) ones64 64 w h0 h1 hR (by decide)
  rw [ones64_length] at h
  refine h.mono ?_
  rintro e w' ⟨A, c, he, hr, hb⟩
  rw [ones64_cw, show (fldL x ones64).length = 64 from by rw [fld_ones, fieldsL_length, ones64_length]] at he
  exact ⟨A, c, he, hr, hb⟩

theorem Join_ones (x : Int) (A : Option Addr) (c b : Nat) (w : World) (h0 : 0 ≤ x) (h1 : x ≤ 18446744073709551615) (hL : Rd (Value.int .u64) w w.heap.size A (fldL x ones64)) (hR : Rd (Value.int .i64) w w.heap.size (some ⟨b, 0, none⟩) ones64) :
    Calls Try.prog 11 #[.slice A 64 c, .slice (some ⟨b, 0, none⟩) 64 64] w fun e w' => e = .returned (.tuple #[.int .u64 x, .int .i64 0]) ∧ Drawn w w' := by
  have hl : (fldL x ones64).length = 64 := by rw [fld_ones, fieldsL_length, ones64_length]
  have h := Join_any A (fldL x ones64) c (some ⟨b, 0, none⟩) ones64 64 w hL hR (by rw [hl]; decide) (by decide) (by rw [fld_ones]; exact fieldsL_range x ones64 h0 h1)
  rw [ones64_length, hl] at h
  refine h.mono ?_
  rintro e w' ⟨he, hd⟩
  rw [join_ones x h0 h1] at he
  exact ⟨he, hd⟩

theorem info_int : (Try.prog.info? 3).map (fun i => (i.zero, i.size, i.bytes)) = some (some (.int .i64 0), 1, 8) := by kernel_rfl

set_option maxRecDepth 100000 in
set_option maxHeartbeats 4000000 in
theorem TopBits_walk (x : Int) (w : World) (h0 : 0 ≤ x) (h1 : x ≤ 18446744073709551615) :
    Calls Try.prog 6 #[.int .u64 x] w fun e w' => e = .returned (.bool true) ∧ Below w.heap.size w w' := by
  obtain ⟨i0, hi0, hz0, hz1, hz2⟩ := info_parts info_int
  have hb8 : i0.bytes * 64 ≤ 281474976710656 := by rw [hz2]; decide
  have hml : 64 ≤ maxLen := by unfold maxLen; omega
  go_enter Try.func6, Try.ntmps6
  go_wp2_with fail
  refine (begins_any _).mono ?_
  rintro e w1 ⟨rfl, hB1⟩
  go_wp2_with (at_make; refine wpList_make_full _ rfl _ _ _ rfl w1.heap.size 3 i0 (.int .i64 0) 1 Try.underlying24 hi0 hz0 hz1 _ _ _ _ 64 rfl rfl rfl rfl hb8 hml (Nat.le_refl _) ?_; intro w2 hown hgr)
  have hbel : Below w1.heap.size w1 w2 := (Below.refl _ _).grown hgr (Nat.le_refl _) (fun _ h => by cases h)
  clear hgr hb8 hml
  go_loopw [16] (fun i wr => ∃ k : Nat, k ≤ 64 ∧ i = .int .i64 k ∧
      wr.ownsRow w1.heap.size 3 1 (.slice (some ⟨w1.heap.size, 0, none⟩) 64 64) 64 ((List.replicate k (1 : Int) ++ List.replicate (64 - k) 0).map (Value.int .i64)) ∧ Below w1.heap.size w1 wr)
    (fun i _ => 64 - (intOf i).toNat)
  case atStart => exact ⟨0, Nat.zero_le _, rfl, by simpa [toList_madeCells_one, Value.cells] using hown, hbel⟩
  case round =>
    obtain ⟨k, hk, rfl, hown, hbel⟩ := hrel
    by_cases hlt : k < 64
    · have hcell : wr.cell? ⟨w1.heap.size, k, none⟩ = some (.int .i64 0) := by
        rw [hown.cellAt k (by omega), List.getElem?_map, List.getElem?_append_right (by simp), List.getElem?_replicate, List.length_replicate, if_pos (by omega)]
        rfl
      have hfr : wr.frozen? ⟨w1.heap.size, k, none⟩ = false := hown.frozenAt k
      have hst := Lib.hid (hown.stored k (.int .i64 1))
      have hput := Lib.hid (row_set (List.replicate k 1) 64 k 1 (Value.int .i64) (by simp) hlt)
      clear hown
      go_wp2
      go_roundw
      case rel =>
        refine ⟨k + 1, by omega, by go_num, ?_, hbel.setCell (Nat.le_refl _) _⟩
        have h3 := hst.out.1
        rw [hput.out, ← List.replicate_succ'] at h3
        exact h3
      case measure => simp [intOf]; omega
    · obtain rfl : k = 64 := by omega
      have hones : Rd (Value.int .i64) wr wr.heap.size (some ⟨w1.heap.size, 0, none⟩) ones64 := Rd.of_own (by simpa [ones64] using hown)
      have hB2 : Below w.heap.size w wr := Below.next hB1 hbel
      clear hown hbel hB1
      go_wp2_with fail
      refine (Fields_ones x _ _ h0 h1 hones).mono ?_
      rintro e w3 ⟨A, c, rfl, hr, hb⟩
      have hB3 := Below.next hB2 hb
      have hones3 := (hones.below hb).more hb.size
      clear hb hB2 hones
      obtain ⟨X, rfl⟩ := Int.eq_ofNat_of_zero_le h0
      have hlen : (fldL (X : Int) ones64).length = 64 := by rw [fld_ones, fieldsL_length, ones64_length]
      have hbit : ∀ k : Nat, k < 64 → (fldL (X : Int) ones64)[k]? = some ((X : Int) / 2 ^ k % 2) := fun k hk => by rw [fld_ones]; exact fieldsL_ones _ 64 k hk
      have HB := Lib.hid hbit
      clear hbit
      go_wp2
      go_loopw [7, 38] (fun nv i wr => ∃ k : Nat, k ≤ 64 ∧ i = .int .i64 k ∧ nv = .int .i64 (pop k X) ∧ Below w3.heap.size w3 wr) (fun _ i _ => 64 - (intOf i).toNat)
      case atStart => exact ⟨0, Nat.zero_le _, rfl, rfl, Below.refl _ _⟩
      case round =>
        obtain ⟨k, hk, rfl, rfl, hbel⟩ := hrel
        by_cases hlt : k < 64
        · obtain ⟨g, off, rfl, hg, hcell⟩ := (hr.below hbel) k _ (HB.out k hlt)
          have hpb := Lib.hid (pop_bit k X)
          have hpl := pop_le k X
          have hpop : (X : Int) / 2 ^ k % 2 = ((X / 2 ^ k % 2 : Nat) : Int) := by rw [pow_cast]; simp
          have hh := Lib.hid (has_one (X : Int) k hlt)
          rw [hpop] at hcell hh
          have hm2 : X / 2 ^ k % 2 < 2 := Nat.mod_lt _ (by decide)
          generalize X / 2 ^ k % 2 = bt at *
          generalize pop k X = S at *
          have hbi : (bt : Int) ≤ 1 := by omega
          clear hpop
          go_wp2_with fail
          refine Calls.mono (Has_any _ [(X : Int)] _ k _ (Rd.one (by go_size) (by go_cell)) (by intro z hz; simp at hz; subst hz; omega)) ?_
          rintro e w4 ⟨rfl, rfl⟩
          rw [hh.out]
          go_wp2
          go_roundw
          case rel => exact ⟨k + 1, by omega, by go_num, by rw [hpb.out]; go_num, hbel.alloc hbel.size _⟩
          case measure => simp [intOf]; omega
        · obtain rfl : k = 64 := by omega
          have hB4 := Below.next hB3 hbel
          have hr4 := (hr.below hbel).more hbel.size
          have hones4 := (hones3.below hbel).more hbel.size
          have HE := Lib.hid (ones_eq (X : Int))
          have HC := Lib.hid (show cntS [(X : Int)] = ones (X : Int) from by unfold cntS onesSum; simp)
          clear hbel hB3 hr hones3
          go_wp2_with fail
          refine (Join_ones (X : Int) A c _ _ h0 h1 hr4 hones4).mono ?_
          rintro e w5 ⟨rfl, hd⟩
          have hB5 := Below.next hB4 (hd.below _)
          clear hd hB4 hr4 hones4
          go_wp2_with fail
          refine Calls.mono (Count_any _ [(X : Int)] _ _ (Rd.one (by go_size) (by go_cell)) (by intro z hz; simp at hz; subst hz; omega) (by simp) (by simp)) ?_
          rintro e w6 ⟨rfl, rfl⟩
          rw [HC.out, HE.out, Int.toNat_natCast]
          generalize pop 64 X = R
          go_wp2_with fail
          have hw1 : Words [(X : Int)] := by intro z hz; simp at hz; subst hz; omega
          refine Calls.mono (Less_any _ _ [(X : Int)] [(X : Int)] _ _ _ (Rd.one (by go_size) (by go_cell)) (Rd.one (by go_size) (by go_cell)) hw1 hw1 (by simp) (by simp) (by simp) (by simp)) ?_
          rintro e w7 ⟨A7, c7, rfl, _, _, _, hb⟩
          rw [less_self (X : Int) h0 h1]
          have hB7 : Below w.heap.size w w7 := Below.next hB5 (Below.next (by go_grown) hb)
          clear hb hB5
          go_wp2
          go_ret
          exact ⟨rfl, hB7⟩

end Go.Proofs.Ytegnnhlbmfbioaa
