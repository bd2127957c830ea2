/- Check of a table: the program's, and the document's. -/
import Derived.Test.YtepngkhepcjdfaaDoorTagNames
import Derived.Test.YtepngkhepcjdfaaDoorBitList
namespace Go.Proofs.YtepngkhepcjdfaaDoor
open Go.RowKit

theorem chk_long (zs : List ByteArray) (h : 64 < zs.length) : chkT zs = 9 := if_pos h
theorem chk_form (zs : List ByteArray) (h : ¬ 64 < zs.length) (h2 : zs.all nameOk = false) : chkT zs = 7 := by
  rw [chkT, if_neg h, if_neg (by rw [h2]; decide)]
theorem chk_rest (zs : List ByteArray) (h : ¬ 64 < zs.length) (h2 : zs.all nameOk = true) : chkT zs = if twiceFrom zs zs.length 0 then 10 else 0 := by
  rw [chkT, if_neg h, if_pos h2]

set_option maxHeartbeats 2000000 in
theorem Check_any (A : Option Addr) (zs : List ByteArray) (c : Nat) (w : World) (hA : Rd Value.string w w.heap.size A zs) (hc : zs.length ≤ c) (hm : c ≤ 9223372036854775807) :
    Calls Tryd.prog 13 #[.slice A zs.length c] w fun e w' => e = .returned (.int .i64 (chkT zs : Int)) ∧ Below w.heap.size w w' := by
  have hci : ((zs.length : Nat) : Int) ≤ (c : Int) := by omega
  by_cases h64 : 64 < zs.length
  · have HN := Lib.hid (chk_long zs h64)
    go_enter Tryd.func13, Tryd.ntmps13
    go_wp2
    go_ret
    exact ⟨ret_int (by rw [HN.out]; rfl), Below.refl _ _⟩
  have HF := Lib.hid (chk_form zs h64)
  have HC := Lib.hid (chk_rest zs h64)
  go_enter Tryd.func13, Tryd.ntmps13
  go_wp2
  go_loopw [12] (fun i w' => ∃ k : Nat, k ≤ zs.length ∧ i = .int .i64 k ∧ Below w.heap.size w w' ∧ Hid (zs.all nameOk = (zs.drop k).all nameOk)) (fun i _ => zs.length - (intOf i).toNat)
  case atStart => exact ⟨0, Nat.zero_le _, rfl, Below.refl _ _, rfl⟩
  case round =>
    obtain ⟨k, hk, rfl, hb, HR⟩ := hrel
    by_cases hlt : k < zs.length
    · obtain ⟨b, off, rfl, hbb, hcc⟩ := (hA.below hb).at_ hlt
      have HS := Lib.hid (all_step nameOk zs k hlt)
      generalize zs[k] = z at hcc HS
      go_wp2_with fail
      refine (isName_any z _).mono ?_
      rintro e w2 ⟨rfl, hb2⟩
      have hb3 := hb.trans (hb2.mono hb.size)
      cases hz : nameOk z
      · have HZ := Lib.hid hz
        clear hz
        go_wp2
        go_ret
        exact ⟨ret_int (by rw [HF.out (by rw [HR.out, HS.out, HZ.out]; rfl)]; rfl), hb3⟩
      · have HZ := Lib.hid hz
        clear hz
        go_wp2
        go_roundw
        case rel => exact ⟨k + 1, by omega, by go_num, hb3, by rw [Hid, HR.out, HS.out, HZ.out]; rfl⟩
        case measure => simp [intOf]; omega
    · have HK := Lib.hid (HC.out (by rw [HR.out, List.drop_eq_nil_of_le (by omega)]; rfl))
      clear HC HF HR
      go_wp2
      go_loopw [22] (fun i w' => ∃ k : Nat, k ≤ zs.length ∧ i = .int .i64 k ∧ Below w.heap.size w w' ∧ Hid (twiceFrom zs zs.length 0 = twiceFrom zs (zs.length - k) k)) (fun i _ => zs.length - (intOf i).toNat)
      case atStart => exact ⟨0, Nat.zero_le _, rfl, hb, rfl⟩
      case round =>
        obtain ⟨k, hk, rfl, hb, HR⟩ := hrel
        by_cases hlt : k < zs.length
        · obtain ⟨b, off, rfl, hbb, hcc⟩ := (hA.below hb).at_ hlt
          have HS := Lib.hid (twice_step zs k hlt)
          have hki : (k : Int) ≤ (c : Int) := by omega
          generalize zs[k] = z at hcc HS
          go_wp2_with fail
          refine (Contains_any (some ⟨b, off, none⟩) (zs.take k) k c z _ (by simp; omega) (((hA.below hb).more hb.size).take (n := k)) (by simp; omega)).mono ?_
          rintro e w2 ⟨rfl, rfl⟩
          cases hz : Lib.containsS (zs.take k) z
          · have HZ := Lib.hid hz
            clear hz
            go_wp2
            go_roundw
            case rel => exact ⟨k + 1, by omega, by go_num, hb, by rw [Hid, HR.out, HS.out, HZ.out]; rfl⟩
            case measure => simp [intOf]; omega
          · have HZ := Lib.hid hz
            clear hz
            go_wp2
            go_ret
            exact ⟨ret_int (by rw [HK.out, HR.out, HS.out, HZ.out]; rfl), hb⟩
        · go_wp2
          go_ret
          exact ⟨ret_int (by rw [HK.out, HR.out, twice_end zs k (by omega)]; rfl), hb⟩

set_option maxHeartbeats 2000000 in
theorem refCheck_any (A : Option Addr) (zs : List ByteArray) (c : Nat) (w : World) (hA : Rd Value.string w w.heap.size A zs) (hm : zs.length ≤ 9223372036854775807) (hz : ∀ z ∈ zs, z.size ≤ 9223372036854775807) :
    Calls Tryd.prog 14 #[.slice A zs.length c] w fun e w' => e = .returned (.int .i64 (chkT zs : Int)) ∧ w = w' := by
  by_cases h64 : 64 < zs.length
  · have HN := Lib.hid (chk_long zs h64)
    go_enter Tryd.func14, Tryd.ntmps14
    go_wp2
    go_ret
    exact ⟨ret_int (by rw [HN.out]; rfl), rfl⟩
  have HF := Lib.hid (chk_form zs h64)
  have HC := Lib.hid (chk_rest zs h64)
  go_enter Tryd.func14, Tryd.ntmps14
  go_wp2
  go_loop [12] (fun i => ∃ k : Nat, k ≤ zs.length ∧ i = .int .i64 k ∧ Hid (zs.all nameOk = (zs.drop k).all nameOk)) (fun i => zs.length - (intOf i).toNat)
  case atStart => exact ⟨0, Nat.zero_le _, rfl, rfl⟩
  case round =>
    obtain ⟨k, hk, rfl, HR⟩ := hrel
    by_cases hlt : k < zs.length
    · obtain ⟨b, off, rfl, hbb, hcc⟩ := hA.at_ hlt
      have HS := Lib.hid (all_step nameOk zs k hlt)
      have hsz := hz zs[k] (List.getElem_mem hlt)
      generalize zs[k] = z at hcc HS hsz
      go_wp2_with fail
      refine (refName_any z _ hsz).mono ?_
      rintro e w2 ⟨rfl, rfl⟩
      cases hq : nameOk z
      · have HZ := Lib.hid hq
        clear hq
        go_wp2
        go_ret
        exact ⟨ret_int (by rw [HF.out (by rw [HR.out, HS.out, HZ.out]; rfl)]; rfl), rfl⟩
      · have HZ := Lib.hid hq
        clear hq
        go_wp2
        go_round
        case rel => exact ⟨k + 1, by omega, by go_num, by rw [Hid, HR.out, HS.out, HZ.out]; rfl⟩
        case measure => simp [intOf]; omega
    · have HK := Lib.hid (HC.out (by rw [HR.out, List.drop_eq_nil_of_le (by omega)]; rfl))
      clear HC HF HR
      go_wp2
      go_loop [22] (fun i => ∃ k : Nat, k ≤ zs.length ∧ i = .int .i64 k ∧ Hid (twiceFrom zs zs.length 0 = twiceFrom zs (zs.length - k) k)) (fun i => zs.length - (intOf i).toNat)
      case atStart => exact ⟨0, Nat.zero_le _, rfl, rfl⟩
      case round =>
        obtain ⟨k, hk, rfl, HR⟩ := hrel
        by_cases hlt : k < zs.length
        · obtain ⟨b, off, rfl, hbb, hcc⟩ := hA.at_ hlt
          have HS := Lib.hid (twice_step zs k hlt)
          have hfb := find_before zs k hlt
          generalize zs[k] = z at hcc HS hfb
          go_wp2_with fail
          refine (find_any (some ⟨b, off, none⟩) zs c z _ hA hm).mono ?_
          rintro e w2 ⟨rfl, rfl⟩
          generalize Lib.idxOfS zs z = g at hfb ⊢
          generalize Lib.containsS (zs.take k) z = q at hfb HS
          by_cases hq : g < (k : Int)
          · rw [decide_eq_true hq] at hfb
            subst hfb
            go_wp2
            go_ret
            exact ⟨ret_int (by rw [HK.out, HR.out, HS.out]; rfl), rfl⟩
          · rw [decide_eq_false hq] at hfb
            subst hfb
            go_wp2
            go_round
            case rel => exact ⟨k + 1, by omega, by go_num, by rw [Hid, HR.out, HS.out]; rfl⟩
            case measure => simp [intOf]; omega
        · go_wp2
          go_ret
          exact ⟨ret_int (by rw [HK.out, HR.out, twice_end zs k (by omega)]; rfl), rfl⟩

end Go.Proofs.YtepngkhepcjdfaaDoor
