/- The functions of package clock, by contract. -/
import Derived.Test.YtdgmcaehadigaaaClkMem
import Derived.Laws.AppendOwnNone
namespace Go.Proofs.Ytdgmcaehadigaaa
open Go.RowKit

theorem isWorker_any (x : Int) (w : World) : Calls Try.prog 113 #[.int .i64 x] w fun e w' => e = .returned (.bool (decide (0 ≤ x ∧ x ≤ 64))) ∧ w = w' := by
  by_cases h1 : 0 ≤ x
  · by_cases h2 : x ≤ 64
    · go_enter Try.func113, Try.ntmps113
      go_wp2
      go_ret
      exact ⟨ret_bool (decide_eq_true (by omega)).symm, rfl⟩
    · go_enter Try.func113, Try.ntmps113
      go_wp2
      go_ret
      exact ⟨ret_bool (decide_eq_false (by omega)).symm, rfl⟩
  · go_enter Try.func113, Try.ntmps113
    go_wp2
    go_ret
    exact ⟨ret_bool (by have h0 : ¬ 0 ≤ x := by omega
                        simp [h0]), rfl⟩

set_option maxHeartbeats 1000000 in
theorem At_any (A : Option Addr) (zs : List Int) (c : Nat) (x : Int) (w : World) {B : Nat} (hA : Rd (Value.int .i64) w B A zs) (_ : zs.length ≤ 9223372036854775807) :
    Calls Try.prog 130 #[.slice A zs.length c, .int .i64 x] w fun e w' => e = .returned (.int .i64 (atZ zs x)) ∧ w = w' := by
  by_cases h1 : 0 ≤ x ∧ x ≤ 64
  · obtain ⟨k, rfl⟩ : ∃ k : Nat, x = (k : Int) := ⟨x.toNat, by omega⟩
    by_cases h2 : k < zs.length
    · obtain ⟨b, off, rfl, hb, hc⟩ := hA.at_ h2
      have he : atZ zs (k : Int) = max zs[k] 0 := by
        rw [atZ, if_pos h1, Int.toNat_natCast, numL_at, atN, if_pos (by omega), List.getD_eq_getElem?_getD, List.getElem?_eq_getElem h2]
        rfl
      have HE := Lib.hid he
      generalize zs[k] = z at *
      have hk0 : (0 : Int) ≤ (k : Int) := h1.1
      have hk1 : (k : Int) < (zs.length : Int) := by omega
      have hd : decide (0 ≤ (k : Int) ∧ (k : Int) ≤ 64) = true := decide_eq_true h1
      have HD := Lib.hid hd
      clear he hd h1
      go_enter Try.func130, Try.ntmps130
      go_wp2_with fail
      refine (isWorker_any _ _).mono ?_
      rw [HD.out]
      rintro e w' ⟨rfl, rfl⟩
      go_wp2
      all_goals
        go_ret
        exact ⟨ret_int (by have := HE.out; omega), rfl⟩
    · have he : atZ zs (k : Int) = 0 := by
        rw [atZ, if_pos h1, Int.toNat_natCast, numL_at, atN, if_pos (by omega), List.getD_eq_getElem?_getD, List.getElem?_eq_none (by omega)]
        rfl
      have HE := Lib.hid he
      have hk1 : ¬ (k : Int) < (zs.length : Int) := by omega
      have hk2 : (zs.length : Int) ≤ (k : Int) := by omega
      have hd : decide (0 ≤ (k : Int) ∧ (k : Int) ≤ 64) = true := decide_eq_true h1
      have HD := Lib.hid hd
      clear he hd h1
      go_enter Try.func130, Try.ntmps130
      go_wp2_with fail
      refine (isWorker_any _ _).mono ?_
      rw [HD.out]
      rintro e w' ⟨rfl, rfl⟩
      go_wp2
      go_ret
      exact ⟨ret_int HE.out.symm, rfl⟩
  · have HE := Lib.hid (show atZ zs x = 0 from if_neg h1)
    have HD := Lib.hid (show decide (0 ≤ x ∧ x ≤ 64) = false from decide_eq_false h1)
    clear h1
    go_enter Try.func130, Try.ntmps130
    go_wp2_with fail
    refine (isWorker_any _ _).mono ?_
    rw [HD.out]
    rintro e w' ⟨rfl, rfl⟩
    go_wp2
    go_ret
    exact ⟨ret_int HE.out.symm, rfl⟩

/-- The numbers of the first k workers. -/
def numTo (zs : List Int) (k : Nat) : List Int := (List.range 65).map fun j => if j < k then atN zs j else 0
theorem numTo_len (zs : List Int) (k : Nat) : (numTo zs k).length = 65 := by simp [numTo]
theorem numTo_zero (zs : List Int) : numTo zs 0 = zeroN := by
  refine num_ext (numTo_len _ _) rfl fun k hk => ?_
  rw [numTo, range_getD _ _ _ _ hk, if_neg (Nat.not_lt_zero _), zeroN, List.getD_eq_getElem?_getD, List.getElem?_replicate, if_pos hk]
  rfl
theorem numTo_all (zs : List Int) : numTo zs 65 = numL zs := by
  refine num_ext (numTo_len _ _) (numL_len _) fun k hk => ?_
  rw [numTo, range_getD _ _ _ _ hk, if_pos hk, numL_at]
theorem numTo_step (zs : List Int) (k : Nat) (hk : k < 65) : (numTo zs k).set k (atN zs k) = numTo zs (k + 1) := by
  refine num_ext (by rw [List.length_set, numTo_len]) (numTo_len _ _) fun j hj => ?_
  rw [set_getD _ _ _ _ (by rw [numTo_len]; exact hk), numTo, numTo, range_getD _ _ _ _ hj, range_getD _ _ _ _ hj]
  by_cases e : k = j
  · subst e; rw [if_pos rfl, if_pos (Nat.lt_succ_self _)]
  · rw [if_neg e]
    by_cases h : j < k
    · rw [if_pos h, if_pos (by omega)]
    · rw [if_neg h, if_neg (by omega)]

/-- Numbers that are told as a whole. -/
def NumsOut (N : List Int) (w : World) (e : Ending) (w' : World) : Prop := e = .returned (.agg (cellsA N)) ∧ Below w.heap.size w w'

set_option maxRecDepth 100000 in
set_option maxHeartbeats 2000000 in
theorem numbersOf_any (A : Option Addr) (zs : List Int) (c : Nat) (w : World) (hA : Rd (Value.int .i64) w w.heap.size A zs) (hl : zs.length ≤ 9223372036854775807) :
    Calls Try.prog 112 #[.slice A zs.length c] w (NumsOut (numL zs) w) := by
  have hz := zero_num
  have h1 := Arr.new w zeroN 175
  have h2 := Arr.new (w.alloc (.cells (cellsA zeroN) 175)) zeroN 175
  have hb : Below w.heap.size w ((w.alloc (.cells (cellsA zeroN) 175)).alloc (.cells (cellsA zeroN) 175)) := ((Below.refl _ w).alloc (Nat.le_refl _) _).alloc (by simp) _
  have h1' := h1.below ((Below.refl _ _).alloc (Nat.le_refl _) (.cells (cellsA zeroN) 175)) (by simp)
  rw [World.size_alloc] at h2
  rw [← numTo_zero zs] at h2
  have HB := Lib.hid hb
  have H1 := Lib.hid h1'
  have H2 := Lib.hid h2
  clear h1 h2 hb h1'
  go_enter Try.func112, Try.ntmps112
  go_wp2
  go_loopw [5] (fun i wr => ∃ k : Nat, k ≤ 65 ∧ i = .int .i64 k ∧ Arr wr w.heap.size zeroN ∧ Arr wr (w.heap.size + 1) (numTo zs k) ∧ Below w.heap.size w wr) (fun i _ => 65 - (intOf i).toNat)
  case atStart => exact ⟨0, Nat.zero_le _, rfl, H1.out, H2.out, HB.out⟩
  case round =>
    obtain ⟨k, hk, rfl, ha1, ha2, hbel⟩ := hrel
    by_cases hlt : k < 65
    · have hc := ha2 k _ (List.getElem?_eq_getElem (by rw [numTo_len]; exact hlt))
      obtain ⟨hc1, hc2⟩ := hc
      generalize (numTo zs k)[k]'(by rw [numTo_len]; exact hlt) = u at hc1
      have HS := Lib.hid (ha2.store k (atN zs k))
      rw [numTo_step zs k hlt] at HS
      have HO := Lib.hid (ha1.other (c := w.heap.size + 1) (by omega) k (.int .i64 (atN zs k)))
      have HBS := Lib.hid (hbel.setCell (p := ⟨w.heap.size + 1, k, none⟩) (by show w.heap.size ≤ w.heap.size + 1; omega) (.int .i64 (atN zs k)))
      have HR := Lib.hid (hA.below hbel)
      have HE : Hid (atZ zs (k : Int) = atN zs k) := by
        rw [Hid, atZ, if_pos (by omega), Int.toNat_natCast, numL_at]
      generalize atN zs k = z at *
      clear ha1 ha2 hbel
      have hk0 : (0 : Int) ≤ (k : Int) := by omega
      have hk1 : (k : Int) < 65 := by omega
      go_wp2_with fail
      refine (At_any A zs c _ _ HR.out hl).mono ?_
      rw [HE.out]
      rintro e w' ⟨rfl, rfl⟩
      go_wp2
      go_roundw
      case rel => exact ⟨k + 1, by omega, by go_num, HO.out, HS.out, HBS.out⟩
      case measure => simp [intOf]; omega
    · obtain rfl : k = 65 := by omega
      rw [numTo_all] at ha2
      have HF := Lib.hid (ha1.setCells (M := numL zs) (by rw [numL_len]; rfl))
      have HG := Lib.hid (below_setCells ((numL zs).map (Value.int .i64)) 0 hbel (Nat.le_refl _))
      go_wp2_with (first | (refine wpList_loadN rfl _ rfl _ rfl _ ha2 (numL_len _) ?_) | (refine wpList_storeN rfl _ _ rfl _ rfl _ rfl _ ha1 rfl (numL_len _) ?_))
      have hr := load_num _ _ HF.out (numL_len zs)
      refine bodyPost_ret (v := .agg (cellsA (numL zs))) ?_ rfl ⟨rfl, HG.out⟩
      exact results_cell _ rfl _ _ rfl _ hr

end Go.Proofs.Ytdgmcaehadigaaa
