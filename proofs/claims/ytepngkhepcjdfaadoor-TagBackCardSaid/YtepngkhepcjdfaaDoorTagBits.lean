/- The bits of a mask: the plain list; wordOf, Bits, Has of package tag, and the document's Bits. -/
import Derived.Test.YtepngkhepcjdfaaDoorTagCheck
import Derived.Test.YtepngkhepcjdfaaDoorBitNext
import Derived.Laws.AppendOwnNone
namespace Go.Proofs.YtepngkhepcjdfaaDoor
open Go.RowKit

/-- The places of a mask's bits, rising. -/
def bitsL (x : Int) : List Int := ((List.range 64).filter fun m : Nat => hasB [x] (m : Int)).map Int.ofNat

theorem one_has_lt {x m : Int} (h : hasB [x] m = true) : 0 ≤ m ∧ m < 64 := by
  refine ⟨(has_range h).1, ?_⟩
  rcases Int.lt_or_le m 64 with h1 | h1
  · exact h1
  · have := has_past [x] m (by simpa using h1)
    rw [this] at h
    cases h

theorem bitsL_mem (x m : Int) : m ∈ bitsL x ↔ hasB [x] m = true := by
  unfold bitsL
  simp only [List.mem_map, List.mem_filter, List.mem_range]
  constructor
  · rintro ⟨a, ⟨_, h⟩, rfl⟩
    exact h
  · intro h
    obtain ⟨h0, h1⟩ := one_has_lt h
    obtain ⟨k, rfl⟩ := Int.eq_ofNat_of_zero_le h0
    exact ⟨k, ⟨by omega, h⟩, rfl⟩

theorem bitsL_nums (x : Int) : Nums [x] (bitsL x) := by
  refine ⟨?_, bitsL_mem x⟩
  unfold bitsL
  rw [List.pairwise_map]
  refine List.Pairwise.imp ?_ ((List.pairwise_lt_range (n := 64)).sublist List.filter_sublist)
  intro a b h
  show (a : Int) < (b : Int)
  omega

theorem bitsL_len (x : Int) : (bitsL x).length ≤ 64 := by
  unfold bitsL
  rw [List.length_map]
  exact Nat.le_trans (List.length_filter_le _ _) (by simp)

theorem bitsL_lt (x : Int) (k : Nat) (h : k < (bitsL x).length) : 0 ≤ (bitsL x)[k] ∧ (bitsL x)[k] < 64 := one_has_lt ((bitsL_mem x _).1 (List.getElem_mem h))

theorem words_one (x : Int) (h0 : 0 ≤ x) (h1 : x ≤ 18446744073709551615) : Words [x] := by
  intro z hz
  rw [List.mem_singleton] at hz
  subst hz
  exact ⟨h0, h1⟩

/-- A list of numbers that a call leaves, in memory of its own. -/
def NumsAre (L : List Int) (w : World) (e : Ending) (w' : World) : Prop :=
  ∃ (A : Option Addr) (c : Nat), e = .returned (.slice A L.length c) ∧ Rd (Value.int .i64) w' w'.heap.size A L ∧ Below w.heap.size w w'

set_option maxHeartbeats 1000000 in
theorem wordOf_any (x : Int) (w : World) :
    Calls Tryd.prog 22 #[.int .u64 x] w (WordsOut [x] w) := by
  go_enter Tryd.func22, Tryd.ntmps22
  go_wp2
  go_ret
  refine ⟨some ⟨w.heap.size, 0, none⟩, 1, rfl, ?_, by simp, by omega, (Below.refl _ _).alloc (Nat.le_refl _) _⟩
  intro k z hz
  refine ⟨w.heap.size, 0, rfl, by simp, ?_⟩
  rw [Nat.zero_add]
  have e : (w.alloc (.cells #[.int .u64 x] 23)).heap[w.heap.size]? = some (.cells #[.int .u64 x] 23) := by
    show (w.heap.push (Obj.cells #[.int .u64 x] 23))[w.heap.size]? = _
    simp
  unfold World.cell?
  simp only [e]
  rcases k with _ | k
  · simp at hz; subst hz; rfl
  · simp at hz

set_option maxHeartbeats 1000000 in
theorem Bits_any (x : Int) (w : World) (h0 : 0 ≤ x) (h1 : x ≤ 18446744073709551615) (hT : Tab w) :
    Calls Tryd.prog 18 #[.int .u64 x] w (NumsAre (bitsL x) w) := by
  have HW := Lib.hid (words_one x h0 h1)
  have HU := Lib.hid (bitsL_nums x)
  go_enter Tryd.func18, Tryd.ntmps18
  go_wp2_with fail
  refine (wordOf_any x _).mono ?_
  rintro e w2 ⟨A, c, rfl, hA, hc, hc2, hb⟩
  go_wp2_with fail
  refine (List_any A [x] c _ hA HW.out hc hc2 (hT.below hb)).mono ?_
  rintro e w3 ⟨L, A', c', rfl, hA', hL, hb'⟩
  have e := hL.uniq HU.out
  subst e
  go_wp2
  go_ret
  exact ⟨A', c', rfl, hA', hb.trans (hb'.mono hb.size)⟩

theorem tagHas_any (t m : Int) (w : World) :
    Calls Tryd.prog 16 #[.int .u64 t, .int .u64 m] w fun e w' => e = .returned (.bool (bits .and .u64 t m == m)) ∧ w = w' := by
  go_enter Tryd.func16, Tryd.ntmps16
  go_wp2
  go_ret
  exact ⟨rfl, rfl⟩

theorem one_bit (x : Int) (k : Nat) (h0 : 0 ≤ x) (h1 : x ≤ 18446744073709551615) (hk : k < 64) : (bits .and .u64 (x / 2 ^ k) 1 == 1) = hasB [x] (k : Int) := by
  have hd := div_pow_le x k h0
  rw [bits_and_one _ hd.1 (by omega)]
  unfold hasB
  rw [decide_eq_true (by omega : (0 : Int) ≤ k), decide_eq_true (by omega : (k : Int) < 4096), show ((k : Int) / 64).toNat = 0 by omega, show ((k : Int) % 64).toNat = k by omega]
  rfl

set_option maxHeartbeats 2000000 in
theorem refBits_any (x : Int) (w : World) (h0 : 0 ≤ x) (h1 : x ≤ 18446744073709551615) :
    Calls Tryd.prog 19 #[.int .u64 x] w (NumsAre (bitsL x) w) := by
  obtain ⟨i0, hi0, hz0, hz1, hz2⟩ := info_parts info_num
  have HU := Lib.hid (fun (L : List Int) (h : Part [x] 64 L) => (h.all (by simp)).uniq (bitsL_nums x))
  have HB := Lib.hid (fun (k : Nat) (hk : k < 64) => one_bit x k h0 h1 hk)
  go_enter Tryd.func19, Tryd.ntmps19
  go_wp2
  go_loopw [3, 4] (fun v i wr => ∃ (k : Nat) (L : List Int), k ≤ 64 ∧ i = .int .i64 k ∧ wr.ownsRow w.heap.size 3 1 v L.length (L.map (Value.int .i64)) ∧ Hid (Part [x] (k : Int) L) ∧ Below w.heap.size w wr)
    (fun _ i _ => 64 - (intOf i).toNat)
  case atStart => exact ⟨0, [], Nat.zero_le _, rfl, World.ownsRow_nil _ _ _ _, Part.start _, Below.refl _ _⟩
  case round =>
    obtain ⟨k, L, hk, rfl, hown, HP, hbel⟩ := hrel
    by_cases hlt : k < 64
    · have hpl := HP.out.len
      have hb1 := hbel.size
      have hq := HB.out k hlt
      cases hm : hasB [x] (k : Int)
      · have HS := Lib.hid (HP.out.skip (b' := ((k + 1 : Nat) : Int)) (by omega) (fun j h1 h2 => by rw [show j = (k : Int) from by omega]; exact hm))
        rw [hm] at hq
        clear hm
        go_wp2
        go_roundw
        case rel => exact ⟨k + 1, L, by omega, by go_num, hown, HS.out, hbel⟩
        case measure => simp [intOf]; omega
      · have HS := Lib.hid (HP.out.step (Int.le_refl _) hm (fun j h1 h2 => by omega))
        rw [hm] at hq
        clear hm
        go_wp2_with (at_builtin; refine wpList_append_own _ rfl _ _ 36 rfl w.heap.size 3 i0 (.int .i64 0) 1 8 Tryd.underlying36 hi0 hz0 hz1 hz2 rfl (by decide) _ _ _ rfl (hown.alloc _) ⟨wr.heap.size, 0, none⟩ 1 1 [.int .i64 (k : Int)] rfl rfl ?c1 ?c2 ?c3 ?c4 ?c5 ?_)
        case c1 =>
          intro j u hj
          match j, hj with
          | 0, hj => simp at hj; subst hj; simp [Addr.add]
        case c2 => intro u hu; simp at hu; subst hu; rfl
        case c3 => unfold maxLen; omega
        case c4 => omega
        case c5 => simp; omega
        intro v' w2 hown2 hgrow _
        have hB := own_base (hown.alloc (.cells #[.int .i64 (k : Int)] 3)) (hbel.alloc hb1 _) (Nat.le_refl _) (by simp; omega) hgrow
        clear hgrow hown
        go_wp2
        go_roundw
        case rel => exact ⟨k + 1, L ++ [(k : Int)], by omega, by go_num, by simpa using hown2, HS.out, hB⟩
        case measure => simp [intOf]; omega
    · go_wp2
      go_ret
      obtain ⟨A', c', rfl, _, _⟩ := own_slice hown
      have hk64 : k = 64 := by omega
      have e := HU.out L (by subst hk64; exact HP.out)
      subst e
      exact ⟨A', c', rfl, Rd.of_own hown, hbel⟩

end Go.Proofs.YtepngkhepcjdfaaDoor
