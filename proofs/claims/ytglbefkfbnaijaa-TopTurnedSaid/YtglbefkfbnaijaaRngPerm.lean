/- Orders that are drawn: the plain list, and the contracts of both functions that draw one. -/
import Derived.Test.YtglbefkfbnaijaaRngWalks
import Derived.Test.YtglbefkfbnaijaaPackPlain
import Derived.Test.YtglbefkfbnaijaaOwn
import Derived.BigRegion
import Derived.Deep.CutBlock
namespace Go.Proofs.Ytglbefkfbnaijaa
open Go.RowKit

/-- The numbers from 0 to below n; two numbers of a list change places; an order that is drawn. -/
def iotaL (n : Nat) : List Int := (List.range n).map (fun k : Nat => (k : Int))
def swapL (l : List Int) (i j : Nat) : List Int := (l.set i (l.getD j 0)).set j (l.getD i 0)
def permGo (s : BitVec 64) : Nat → List Int → List Int
  | 0, l => l
  | i + 1, l => permGo s i (swapL l (i + 1) (belN s (i + 1) (i + 1 + 1)))
def permL (s : BitVec 64) (n : Nat) : List Int := permGo s (n - 1) (iotaL n)

theorem iotaL_length (n : Nat) : (iotaL n).length = n := by simp [iotaL]
theorem iotaL_succ (n : Nat) : iotaL (n + 1) = iotaL n ++ [(n : Int)] := by simp [iotaL, List.range_succ]
theorem swapL_length (l : List Int) (i j : Nat) : (swapL l i j).length = l.length := by simp [swapL]
theorem permGo_length (s : BitVec 64) (i : Nat) (l : List Int) : (permGo s i l).length = l.length := by
  induction i generalizing l with
  | zero => rfl
  | succ i ih => rw [permGo, ih, swapL_length]
theorem permL_length (s : BitVec 64) (n : Nat) : (permL s n).length = n := by rw [permL, permGo_length, iotaL_length]
theorem permGo_step (s : BitVec 64) (i : Nat) (l : List Int) (h : 1 ≤ i) : permGo s i l = permGo s (i - 1) (swapL l i (belN s i (i + 1))) := by
  obtain ⟨j, rfl⟩ : ∃ j, i = j + 1 := ⟨i - 1, by omega⟩
  rfl

theorem below_lt (x n : Nat) (hx : x < 18446744073709551616) (hn : 0 < n) : x * n / 18446744073709551616 < n := by
  rw [Nat.div_lt_iff_lt_mul (by omega), Nat.mul_comm]
  exact Nat.mul_lt_mul_of_pos_left hx hn
theorem bel_le (s : BitVec 64) (i : Nat) : belN s i (i + 1) ≤ i := by
  have := below_lt (atB s (BitVec.ofNat 64 i)).toNat (i + 1) (atB s (BitVec.ofNat 64 i)).isLt (by omega)
  unfold belN
  omega

theorem Below_next (d : BitVec 64) (i : Nat) (w : World) (hi : i < 4096) :
    Calls Try.prog 113 #[.int .u64 (atB d (BitVec.ofNat 64 i)).toNat, .int .u64 ((i : Int) + 1)] w fun e w' => e = .returned (.int .u64 (belN d i (i + 1))) ∧ w = w' := Below_at d i (i + 1) w (by omega)
/-- How many numbers an order has. -/
def clampP (n : Int) : Nat := if n < 0 then 0 else if 4096 < n then 4096 else n.toNat
theorem clampP_cases (n : Int) : ∃ m : Nat, m ≤ 4096 ∧ clampP n = m ∧ ((n < 0 ∧ m = 0) ∨ (n = (m : Int)) ∨ (4096 < n ∧ m = 4096)) := by
  unfold clampP
  by_cases h2 : n < 0
  · exact ⟨0, by omega, by rw [if_pos h2], .inl ⟨h2, rfl⟩⟩
  · by_cases h3 : 4096 < n
    · exact ⟨4096, by omega, by rw [if_neg h2, if_pos h3], .inr (.inr ⟨h3, rfl⟩)⟩
    · exact ⟨n.toNat, by omega, by rw [if_neg h2, if_neg h3], .inr (.inl (by omega))⟩

theorem perm_at {n : Nat} : ∀ k o, (some (⟨n, 0, none⟩ : Addr)) = some ⟨k, o, none⟩ → k = n := fun k o e => by
  injection e with e
  injection e with e
  exact e.symm
/-- A list of numbers comes back, in new memory. -/
def PermOut (l : List Int) (w : World) (e : Ending) (w' : World) : Prop :=
  ∃ A c, e = .returned (.slice A l.length c) ∧ Rd (Value.int .i64) w' w'.heap.size A l ∧ Below w.heap.size w w' ∧ ∀ k o, A = some ⟨k, o, none⟩ → k = w.heap.size

theorem info_intP : (Try.prog.info? 3).map (fun i => (i.zero, i.size, i.bytes)) = some (some (.int .i64 0), 1, 8) := by kernel_rfl

theorem made_ints {w : World} {B m c : Nat} {A : Option Addr} (h : w.ownsRow B 3 1 (.slice A m c) m (madeCells (Value.int .i64 0).cells (m * 1)).toList) :
    w.ownsRow B 3 1 (.slice A m c) m ((List.replicate m 0).map (Value.int .i64)) := by
  simpa [toList_madeCells_one, Value.cells] using h

set_option maxHeartbeats 2000000 in
theorem Perm_any (s : BitVec 64) (n : Int) (w : World) : Calls Try.prog 70 #[.int .u64 s.toNat, .int .i64 n] w (PermOut (permL s (clampP n)) w) := by
  obtain ⟨i0, hi0, hz0, hz1, hz2⟩ := info_parts info_intP
  obtain ⟨m, hm, hC, hcase⟩ := clampP_cases n
  rw [hC]
  clear hC
  have hb8 : i0.bytes * m ≤ 281474976710656 := by rw [hz2]; omega
  have hml : m ≤ maxLen := by unfold maxLen; omega
  go_enter Try.func70, Try.ntmps70
  go_upto_region 1 with (fail)
  go_cut [5] (fun v wx => v = .slice (some ⟨w.heap.size, 0, none⟩) m m ∧ wx.ownsRow w.heap.size 3 1 (.slice (some ⟨w.heap.size, 0, none⟩) m m) m ((List.replicate m 0).map (Value.int .i64)) ∧ Below w.heap.size w wx)
  case first =>
    rcases hcase with ⟨h2, h3⟩ | rfl | ⟨h2, h3⟩
    · have hL : (0 : Int) = (m : Int) := by omega
      have HL := Lib.hid hL
      clear h3 hL
      go_wp2_with (at_make; refine wpList_make_full _ rfl _ _ _ rfl w.heap.size 3 i0 (.int .i64 0) 1 Try.underlying65 hi0 hz0 hz1 _ _ _ _ m rfl rfl HL.out HL.out hb8 hml (Nat.le_refl _) ?_; intro w1 hown hgr)
      go_meet
      exact ⟨rfl, made_ints hown, (Below.refl _ _).grown hgr (Nat.le_refl _) (fun _ h => by cases h)⟩
    · go_wp2_with (at_make; refine wpList_make_full _ rfl _ _ _ rfl w.heap.size 3 i0 (.int .i64 0) 1 Try.underlying65 hi0 hz0 hz1 _ _ _ _ m rfl rfl rfl rfl hb8 hml (Nat.le_refl _) ?_; intro w1 hown hgr)
      go_meet
      exact ⟨rfl, made_ints hown, (Below.refl _ _).grown hgr (Nat.le_refl _) (fun _ h => by cases h)⟩
    · have hL : (4096 : Int) = (m : Int) := by omega
      have HL := Lib.hid hL
      clear h3 hL
      go_wp2_with (at_make; refine wpList_make_full _ rfl _ _ _ rfl w.heap.size 3 i0 (.int .i64 0) 1 Try.underlying65 hi0 hz0 hz1 _ _ _ _ m rfl rfl HL.out HL.out hb8 hml (Nat.le_refl _) ?_; intro w1 hown hgr)
      go_meet
      exact ⟨rfl, made_ints hown, (Below.refl _ _).grown hgr (Nat.le_refl _) (fun _ h => by cases h)⟩
  case rest =>
    obtain ⟨rfl, hown, hbel⟩ := hcut
    clear hcase hb8 hml hi0 hz0 hz1 hz2
    go_wp2
    go_loopw [15] (fun i wr => ∃ k : Nat, k ≤ m ∧ i = .int .i64 k ∧
        wr.ownsRow w.heap.size 3 1 (.slice (some ⟨w.heap.size, 0, none⟩) m m) m ((iotaL k ++ List.replicate (m - k) 0).map (Value.int .i64)) ∧ Below w.heap.size w wr)
      (fun i _ => m - (intOf i).toNat)
    case atStart => exact ⟨0, Nat.zero_le _, rfl, by simpa [iotaL] using hown, hbel⟩
    case round =>
      obtain ⟨k, hk, rfl, hown, hbel⟩ := hrel
      by_cases hlt : k < m
      · have hcell : wr.cell? ⟨w.heap.size, k, none⟩ = some (.int .i64 0) := by
          rw [hown.cellAt k (by omega)]
          simp [List.getElem?_append_right, iotaL_length, List.getElem?_replicate]
          omega
        have hfr : wr.frozen? ⟨w.heap.size, k, none⟩ = false := hown.frozenAt k
        have hst := hown.stored k (.int .i64 k)
        have hkm : (k : Int) < (m : Int) := by omega
        go_wp2
        go_roundw
        case rel =>
          refine ⟨k + 1, by omega, by go_num, ?_, hbel.setCell (Nat.le_refl _) _⟩
          have h3 := hst.1
          rw [row_set (iotaL k) m k _ _ (iotaL_length k) hlt, ← iotaL_succ] at h3
          exact h3
        case measure => simp [intOf]; omega
      · obtain rfl : k = m := by omega
        rw [Nat.sub_self, List.replicate_zero, List.append_nil] at hown
        go_wp2
        go_loopw [7] (fun i wr' => ∃ l : List Int, Hid (l.length = k) ∧ wr'.ownsRow w.heap.size 3 1 (.slice (some ⟨w.heap.size, 0, none⟩) k k) k (l.map (Value.int .i64)) ∧ Below w.heap.size w wr' ∧
            ((i = .int .i64 (-1) ∧ k = 0) ∨ ∃ j : Nat, j < k ∧ i = .int .i64 j ∧ Hid (permGo s j l = permL s k)))
          (fun i _ => (intOf i + 1).toNat)
        case atStart =>
          refine ⟨iotaL k, iotaL_length k, hown, hbel, ?_⟩
          rcases Nat.eq_zero_or_pos k with rfl | hk0
          · exact .inl ⟨rfl, rfl⟩
          · exact .inr ⟨k - 1, by omega, by rw [show ((k : Int) - 1) = ((k - 1 : Nat) : Int) from by omega], rfl⟩
        case round =>
          obtain ⟨l, HL, hown, hbel, hj⟩ := hrel
          rcases hj with ⟨rfl, h0⟩ | ⟨j, hj, rfl, HP⟩
          · have H0 := Lib.hid h0
            clear h0
            go_wp2
            go_ret
            have hl : l.length = k := HL.out
            have hk0 : k = 0 := H0.out
            subst hk0
            obtain rfl : l = [] := List.length_eq_zero_iff.1 hl
            exact ⟨_, _, rfl, Rd.nil, hbel, perm_at⟩
          · by_cases h1 : 1 ≤ j
            · have hbl := bel_le s j
              have hst := Lib.hid (permGo_step s j l h1)
              have HQ : Hid (belN s j (j + 1) = belN s j (j + 1)) := rfl
              obtain ⟨q, hq⟩ : ∃ q, belN s j (j + 1) = q := ⟨_, rfl⟩
              have hBel := fun w => Below_next s j w (by omega)
              rw [hq] at hbl hst hBel
              have HB := Lib.hid hBel
              clear hBel hq HQ
              have hl : l.length = k := HL.out
              have cj : wr.cell? ⟨w.heap.size, j, none⟩ = some (.int .i64 (l.getD j 0)) := by
                rw [hown.cellAt j (by omega), List.getElem?_map, List.getD_eq_getElem?_getD, List.getElem?_eq_getElem (by omega)]
                rfl
              have cq : wr.cell? ⟨w.heap.size, q, none⟩ = some (.int .i64 (l.getD q 0)) := by
                rw [hown.cellAt q (by omega), List.getElem?_map, List.getD_eq_getElem?_getD, List.getElem?_eq_getElem (by omega)]
                rfl
              have fj : wr.frozen? ⟨w.heap.size, j, none⟩ = false := hown.frozenAt j
              have fq : wr.frozen? ⟨w.heap.size, q, none⟩ = false := hown.frozenAt q
              have HSW : Hid (swapL l j q = (l.set j (l.getD q 0)).set q (l.getD j 0)) := rfl
              generalize l.getD j 0 = a at *
              generalize l.getD q 0 = b at *
              clear hl
              have hqk : (q : Int) < (k : Int) := by omega
              have hjk : (j : Int) < (k : Int) := by omega
              have hq0 : (0 : Int) ≤ (q : Int) := by omega
              have hj0 : (0 : Int) ≤ (j : Int) := by omega
              obtain ⟨v', hv'⟩ := cell?_setCell_some (w := wr) (p := ⟨w.heap.size, j, none⟩) (x := .int .i64 b) (q := ⟨w.heap.size, q, none⟩) cq
              go_upto_block 3 with (fail)
              go_cut [] (fun wx => wx = ((wr.setCell ⟨w.heap.size, j, none⟩ (.int .i64 b)).setCell ⟨w.heap.size, q, none⟩ (.int .i64 a)).drew)
              case first =>
                go_wp2_with fail
                refine (At_num s j _ (by omega)).mono ?_
                rintro e w' ⟨rfl, rfl⟩
                go_wp2_with fail
                refine (HB.out _).mono ?_
                rintro e w' ⟨rfl, rfl⟩
                clear HSW HB HL hst hown hbel HP
                go_wp2
                go_region
                go_wp2_with fail
                go_meet
                rfl
              case rest =>
                subst hcut
                go_wp2
                go_roundw
                case rel =>
                  have h3 := ((hown.stored j (.int .i64 b)).1.stored q (.int .i64 a)).1
                  rw [← List.map_set, ← List.map_set, ← HSW.out] at h3
                  refine ⟨swapL l j q, by rw [Hid, swapL_length, HL.out], h3, ((hbel.setCell (Nat.le_refl _) _).setCell (Nat.le_refl _) _).drew, .inr ⟨j - 1, by omega, ?_, by rw [Hid, ← HP.out, hst.out]⟩⟩
                  rw [show ((j : Int) - 1) = ((j - 1 : Nat) : Int) from by omega]
                case measure => simp [intOf]
            · obtain rfl : j = 0 := by omega
              go_wp2
              go_ret
              have hl : l.length = k := HL.out
              have he : permL s k = l := HP.out.symm
              exact ⟨_, _, by rw [he, hl]; rfl, by rw [he]; exact Rd.of_own hown, hbel, perm_at⟩

end Go.Proofs.Ytglbefkfbnaijaa
