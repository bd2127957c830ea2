/- The contract of bitset.Meet: its closure, the words put together, the call. -/
import Derived.Test.YtkfbgadcfinlfaaDoorBitWords
namespace Go.Proofs.YtkfbgadcfinlfaaDoor
open Go.RowKit

set_option maxHeartbeats 400000 in
theorem Meet1_any (x y : Int) (w : World) :
    Calls Tryd.prog 30 #[.int .u64 x, .int .u64 y] w fun e w' => e = .returned (.int .u64 (bits .and .u64 x y)) ∧ w = w' := by
  go_enter Tryd.func30, Tryd.ntmps30
  go_wp2
  go_ret
  exact ⟨rfl, rfl⟩

set_option maxHeartbeats 2000000 in
theorem wordByWord_Meet (f : Int → Int → Int) (hK : Hid (Acts 30 f)) (A B : Option Addr) (xs ys : List Int) (ca cb : Nat) (w : World)
    (hA : Rd (Value.int .u64) w w.heap.size A xs) (hB : Rd (Value.int .u64) w w.heap.size B ys) (hxw : Hid (Words xs)) (hyw : Hid (Words ys))
    (hca : xs.length ≤ ca) (hca2 : ca ≤ 9223372036854775807) (hcb : ys.length ≤ cb) (hcb2 : cb ≤ 9223372036854775807) :
    Calls Tryd.prog 28 #[.slice A xs.length ca, .slice B ys.length cb, .func (.func 30) #[] #[]] w (WordsOut (trimR (zipL f xs ys)) w) := by
  obtain ⟨i0, hi0, hz0, hz1, hz2⟩ := info_parts info_word
  have hlx : (xs.take 64).length ≤ 64 := List.length_take_le _ _
  have hly : (ys.take 64).length ≤ 64 := List.length_take_le _ _
  have hzl := Lib.hid (zipL_length f xs ys)
  have hzg := Lib.hid (zipL_get f xs ys)
  go_enter Tryd.func28, Tryd.ntmps28
  go_wp2_with fail
  refine (spoken_any A xs ca _ hca hca2).mono ?_
  rintro e w1 ⟨rfl, rfl⟩
  generalize (xs.take 64).length = p at *
  go_wp2_with fail
  refine (spoken_any B ys cb _ hcb hcb2).mono ?_
  rintro e w1 ⟨rfl, rfl⟩
  generalize (ys.take 64).length = q at *
  obtain ⟨N, hN⟩ : ∃ N, N = max p q := ⟨_, rfl⟩
  have hNl : N ≤ 64 := by omega
  have HZ := Lib.hid (show (zipL f xs ys).length = N from by rw [hzl.out, hN])
  clear hzl
  have hb8 : i0.bytes * N ≤ 281474976710656 := by rw [hz2]; omega
  have hml : N ≤ maxLen := by unfold maxLen; omega
  rcases Nat.lt_or_ge p q with h | h
  case' inl =>
    obtain rfl : N = q := by omega
    have hpq : (p : Int) < (N : Int) := by omega
    clear hN hly
  case' inr =>
    obtain rfl : N = p := by omega
    have hpq : (q : Int) ≤ (N : Int) := by omega
    clear hN hlx
  all_goals
    clear h
    generalize zipL f xs ys = Z at *
    go_wp2_with (at_make; refine wpList_make_full _ rfl _ _ _ rfl w.heap.size 38 i0 (.int .u64 0) 1 Tryd.underlying22 hi0 hz0 hz1 _ _ _ _ _ rfl rfl rfl rfl hb8 hml (Nat.le_refl _) ?_; intro w1 hown hgr)
    have hbel : Below w.heap.size w w1 := (Below.refl _ _).grown hgr (Nat.le_refl _) (fun _ h => by cases h)
    clear hgr hb8 hml
    go_loopw [19] (fun i wr => ∃ k : Nat, k ≤ N ∧ i = .int .i64 k ∧
        wr.ownsRow w.heap.size 38 1 (.slice (some ⟨w.heap.size, 0, none⟩) N N) N ((Z.take k ++ List.replicate (N - k) 0).map (Value.int .u64)) ∧ Below w.heap.size w wr)
      (fun i _ => N - (intOf i).toNat)
    case atStart => exact ⟨0, Nat.zero_le _, rfl, by simpa [toList_madeCells_one, Value.cells] using hown, hbel⟩
    case round =>
      obtain ⟨k, hk, rfl, hown, hbel⟩ := hrel
      by_cases hlt : k < N
      · have hZ := HZ.out
        have hgx := hxw.out.getD k
        have hgy := hyw.out.getD k
        have hput := Lib.hid (row_put Z k (by omega) (Value.int .u64))
        have hval := hzg.out k (by omega)
        have hcell : wr.cell? ⟨w.heap.size, k, none⟩ = some (.int .u64 0) := by
          rw [hown.cellAt k (by omega), List.getElem?_map, List.getElem?_append_right (by rw [List.length_take]; omega), List.getElem?_replicate, List.length_take, if_pos (by omega)]
          rfl
        have hfr : wr.frozen? ⟨w.heap.size, k, none⟩ = false := hown.frozenAt k
        have hst := Lib.hid (hown.stored k (.int .u64 Z[k]))
        rw [hval] at hst hput
        have hA' := (hA.below hbel).more hbel.size
        have hB' := (hB.below hbel).more hbel.size
        clear hval hZ hown
        go_wp2_with fail
        refine (wordAt_any A xs ca k _ hA' (by omega)).mono ?_
        rintro e w2 ⟨rfl, rfl⟩
        rw [Int.toNat_natCast]
        generalize xs.getD k 0 = x at *
        go_wp2_with fail
        refine (wordAt_any B ys cb k _ hB' (by omega)).mono ?_
        rintro e w2 ⟨rfl, rfl⟩
        rw [Int.toNat_natCast]
        generalize ys.getD k 0 = y at *
        obtain ⟨x0, x1⟩ := hgx
        obtain ⟨y0, y1⟩ := hgy
        go_wp2_with fail
        refine (hK.out x y _ x0 x1 y0 y1).mono ?_
        rintro e w2 ⟨rfl, rfl⟩
        go_wp2
        go_roundw
        case rel =>
          refine ⟨k + 1, by omega, by go_num, ?_, hbel.setCell (Nat.le_refl _) _⟩
          have h3 := hst.out.1
          rw [show Z.length = N from HZ.out] at hput
          rw [hput.out] at h3
          exact h3
        case measure => simp [intOf]; omega
      · have hkk : k = N := by omega
        subst hkk
        rw [show Z.take k = Z from List.take_of_length_le (by rw [HZ.out]; exact Nat.le_refl _), Nat.sub_self, List.replicate_zero, List.append_nil] at hown
        go_wp2
        go_loop [7] (fun v => ∃ m : Nat, m ≤ k ∧ v = .slice (some ⟨w.heap.size, 0, none⟩) m k ∧ Hid (trimR (Z.take m) = trimR Z)) (fun v => match v with | .slice _ n _ => n | _ => 0)
        case atStart => exact ⟨k, Nat.le_refl _, rfl, by rw [Hid, show Z.take k = Z from List.take_of_length_le (by rw [HZ.out]; exact Nat.le_refl _)]⟩
        case round =>
          obtain ⟨m, hm, rfl, HT⟩ := hrel
          by_cases h0 : 0 < m
          · have hZ := HZ.out
            have htk := Lib.hid (show Z.take m = Z.take (m - 1) ++ [Z[m - 1]] from by
              obtain ⟨j, rfl⟩ : ∃ j, m = j + 1 := ⟨m - 1, by omega⟩
              rw [List.take_add_one, List.getElem?_eq_getElem (by omega)]
              rfl)
            have hcell : wr.cell? ⟨w.heap.size, m - 1, none⟩ = some (.int .u64 Z[m - 1]) := by
              rw [hown.cellAt (m - 1) (by omega), List.getElem?_map, List.getElem?_eq_getElem (by omega)]
              rfl
            generalize Z[m - 1] = z at *
            have hm0 : (0 : Int) < (m : Int) := by omega
            by_cases hz : z = 0
            · subst hz
              go_wp2
              go_round
              case rel => exact ⟨m - 1, by omega, rfl, by rw [Hid, ← HT.out, htk.out, trimR_zero]⟩
              case measure => simp; omega
            · go_wp2
              go_ret
              have hT : trimR Z = Z.take m := by rw [← HT.out, htk.out, trimR_ne _ _ hz]
              have hl : (Z.take m).length = m := by rw [List.length_take]; omega
              refine ⟨some ⟨w.heap.size, 0, none⟩, k, ?_, ?_, ?_, by omega, hbel⟩
              · rw [hT, hl]; rfl
              · rw [hT]; exact (Rd.of_own hown).take
              · rw [hT, hl]; exact hm
          · obtain rfl : m = 0 := by omega
            have hT : trimR Z = [] := by rw [← HT.out, List.take_zero, trimR_nil]
            have HT' := Lib.hid hT
            clear hT
            go_wp2
            go_ret
            refine ⟨some ⟨w.heap.size, 0, none⟩, k, ?_, ?_, ?_, by omega, hbel⟩
            · rw [HT'.out]; rfl
            · rw [HT'.out]; exact Rd.nil
            · rw [HT'.out]; exact Nat.zero_le _

/-- What is in both words. -/
def andF (x y : Int) : Int := bits .and .u64 x y
theorem Meet_any (A B : Option Addr) (xs ys : List Int) (ca cb : Nat) (w : World)
    (hA : Rd (Value.int .u64) w w.heap.size A xs) (hB : Rd (Value.int .u64) w w.heap.size B ys) (hxw : Words xs) (hyw : Words ys)
    (hca : xs.length ≤ ca) (hca2 : ca ≤ 9223372036854775807) (hcb : ys.length ≤ cb) (hcb2 : cb ≤ 9223372036854775807) :
    Calls Tryd.prog 20 #[.slice A xs.length ca, .slice B ys.length cb] w (WordsOut (trimR (zipL andF xs ys)) w) := by
  have hK : Acts 30 andF := fun x y w _ _ _ _ => Meet1_any x y w
  have h := Lib.hid (wordByWord_Meet andF hK A B xs ys ca cb w hA hB hxw hyw hca hca2 hcb hcb2)
  clear hK
  go_enter Tryd.func20, Tryd.ntmps20
  go_wp2_with fail
  refine h.out.mono ?_
  rintro e w1 ⟨A1, c1, rfl, hr, h1, h2, hb⟩
  go_wp2
  go_ret
  exact ⟨A1, c1, rfl, hr, h1, h2, hb⟩

end Go.Proofs.YtkfbgadcfinlfaaDoor
