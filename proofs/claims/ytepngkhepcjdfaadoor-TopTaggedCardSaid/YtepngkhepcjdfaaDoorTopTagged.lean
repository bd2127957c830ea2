/- TopTagged: the law's own walk. -/
import Derived.Test.YtepngkhepcjdfaaDoorTagBack
import Derived.Test.YtepngkhepcjdfaaDoorTagBegins
namespace Go.Proofs.YtepngkhepcjdfaaDoor
open Go.RowKit

theorem has_pow (T i : Nat) (hT : T < 2 ^ 64) (hi : i < 64) : (bits .and .u64 (T : Int) ((2 ^ i : Nat) : Int) == ((2 ^ i : Nat) : Int)) = T.testBit i := by
  have h := (bit_facts T i hi hT).1
  have hlt : 2 ^ i < 2 ^ 64 := Nat.pow_lt_pow_right (by decide) hi
  have h64 : 2 ^ 64 = 18446744073709551616 := by decide
  rw [pow_cast] at h
  generalize 2 ^ i = p at *
  rw [IntKind.wrap_u64, Int.emod_eq_of_lt (by omega) (by omega)] at h
  exact h
/-- Has T all bits of X? -/
theorem has_all (T X : Nat) (hT : T < 2 ^ 64) (hX : X < 2 ^ 64) (P : List Nat) (hP : (goP P).1 = X) : (bits .and .u64 (T : Int) (X : Int) == (X : Int)) = P.all fun i => T.testBit i := by
  have h64 : 2 ^ 64 = 18446744073709551616 := by decide
  rw [bits_and_u64 _ _ (by omega) (by omega) (by omega) (by omega), Int.toNat_natCast, Int.toNat_natCast, Bool.eq_iff_iff, beq_iff_eq, Int.natCast_inj, List.all_eq_true]
  have hm : ∀ i, X.testBit i = decide (i ∈ P) := fun i => by rw [← hP, goP_bit]
  constructor
  · intro h i hi
    have := congrArg (fun n => n.testBit i) h
    simp only [Nat.testBit_and] at this
    rw [hm i, decide_eq_true hi, Bool.and_true] at this
    exact this
  · intro h
    refine Nat.eq_of_testBit_eq fun i => ?_
    rw [Nat.testBit_and, hm i]
    by_cases hi : i ∈ P
    · rw [h i hi, decide_eq_true hi]; rfl
    · rw [decide_eq_false hi, Bool.and_false]
theorem none_else (X i : Nat) (hb : X.testBit i = true) : bits .andNot .u64 ((2 ^ i : Nat) : Int) (X : Int) = 0 := by
  show IntKind.u64.wrap ((BitVec.ofInt 64 ((2 ^ i : Nat) : Int) &&& ~~~ (BitVec.ofInt 64 (X : Int))).toNat : Int) = 0
  have h : BitVec.ofInt 64 ((2 ^ i : Nat) : Int) &&& ~~~ (BitVec.ofInt 64 (X : Int)) = 0#64 := by
    rw [BitVec.ofInt_natCast, BitVec.ofInt_natCast]
    refine BitVec.eq_of_getLsbD_eq fun j hj => ?_
    rw [BitVec.getLsbD_and, BitVec.getLsbD_not, BitVec.getLsbD_ofNat, BitVec.getLsbD_ofNat, Nat.testBit_two_pow]
    by_cases e : i = j
    · subst e; simp [hb]
    · simp [e]
  rw [h]
  rfl
theorem nms_zero {zs : List ByteArray} {x : Int} (h : nmsW zs x = 0) : chkT zs = 0 ∧ (∀ m ∈ bitsL x, m < (zs.length : Int)) ∧ nmsL zs x = (bitsL x).map (nameAt zs) := by
  have ht : chkT zs = 0 := by
    rcases Nat.eq_zero_or_pos (chkT zs) with h1 | h1
    · exact h1
    · have := (nms_err zs x (by omega)).1
      omega
  have hall : ∀ m ∈ bitsL x, m < (zs.length : Int) := by
    unfold nmsW at h
    rw [if_pos ht] at h
    split at h
    · assumption
    · cases h
  exact ⟨ht, hall, (nms_ok zs x ht hall).2⟩
/-- A name alone is read as its bit. -/
theorem one_text (zs : List ByteArray) (ht : chkT zs = 0) (i : Nat) (hi : i < zs.length) : prsW zs (nameAt zs (i : Int)) = 0 ∧ prsM zs (nameAt zs (i : Int)) = 2 ^ i := by
  have hn := chk_names ht _ (List.getElem_mem hi)
  have hp : partsB zs[i] = [zs[i]] := parts_join [zs[i]] (fun x hx => by rw [List.mem_singleton] at hx; rw [hx]; exact hn)
  have hx := idx_at ht i hi
  have hin : (partsB zs[i]).all (isIn zs) = true := by
    rw [hp]
    simp [isIn, hx]
  have hpl : (partsB zs[i]).map (plcOf zs) = [i] := by
    rw [hp]
    show [(Lib.idxOfS zs zs[i]).toNat] = [i]
    rw [hx]
    rfl
  obtain ⟨e1, e2⟩ := prs_end zs zs[i] ht hin
  rw [nameAt_get hi]
  rw [hpl] at e1 e2
  have e3 : endW (goP [i]) = 0 := end_of_rise (List.pairwise_singleton _ _)
  rw [e3] at e1
  rw [e1, if_pos rfl] at e2
  exact ⟨e1, by rw [e2]; show 0 ||| 2 ^ i = 2 ^ i; rw [Nat.zero_or]⟩

set_option maxRecDepth 100000 in
set_option maxHeartbeats 8000000 in
theorem TopTagged_walk (A : Option Addr) (zs : List ByteArray) (c : Nat) (X T : Nat) (w : World) (h : Tb A zs c w) (hX : X < 2 ^ 64) (hT : T < 2 ^ 64) :
    Calls Tryd.prog 5 #[.slice A zs.length c, .int .u64 (X : Int), .int .u64 (T : Int)] w fun e w' => e = .returned (.bool true) ∧ Below w.heap.size w w' := by
  have h64 : 2 ^ 64 = 18446744073709551616 := by decide
  have hX1 : (X : Int) ≤ 18446744073709551615 := by omega
  have HX := Lib.hid hX
  have HT := Lib.hid hT
  have HXi := Lib.hid hX1
  clear hX hT hX1 h64
  go_enter Tryd.func5, Tryd.ntmps5
  go_wp2_with fail
  refine Calls.mono (begins3_any _) ?_
  rintro e w1 ⟨rfl, hb⟩
  have t1 := h.below hb
  have B1 : Below w.heap.size w w1 := hb
  clear hb
  go_wp2_with fail
  refine Calls.mono (Names_t t1 (X : Int) (by omega) HXi.out) ?_
  rintro e w2 ⟨A2, c2, rfl, r2, k2, m2, hb⟩
  have t2 := t1.below hb
  have B2 := Below.next B1 hb
  clear hb t1 B1
  by_cases h0 : nmsW zs (X : Int) = 0
  · obtain ⟨ht, hall, hn⟩ := nms_zero h0
    obtain ⟨P, hP, _, hP64, hPX⟩ := bits_nat X HX.out
    have hl := chkT_len ht
    have hnP : nmsL zs (X : Int) = P.map fun i : Nat => nameAt zs (i : Int) := by
      rw [hn, hP, List.map_map]
      rfl
    have hPz : ∀ i ∈ P, i < zs.length := fun i hi => by
      have := hall (i : Int) (by rw [hP]; exact List.mem_map.2 ⟨i, hi, rfl⟩)
      omega
    rw [hnP, List.length_map, h0]
    rw [hnP] at r2
    have hPl : P.length ≤ 64 := by
      have := bitsL_len (X : Int)
      rw [hP, List.length_map] at this
      exact this
    have r3 : Rd (fun i : Nat => Value.string (nameAt zs (i : Int))) w2 w2.heap.size A2 P := fun k z hz => r2 k (nameAt zs (z : Int)) (by rw [List.getElem?_map, hz]; rfl)
    have HPX := Lib.hid hPX
    have HP64 := Lib.hid hP64
    have HPz := Lib.hid hPz
    have HC := Lib.hid ht
    have HPb := Lib.hid hP
    clear hP hP64 hPX hnP hPz hn hall ht r2 k2 h0
    go_wp2
    go_loopw [9, 38] (fun v i wr => ∃ k : Nat, k ≤ P.length ∧ i = .int .i64 k ∧ v = .bool ((P.take k).all fun i => T.testBit i) ∧ Below w2.heap.size w2 wr) (fun _ i _ => P.length - (intOf i).toNat)
    case atStart => exact ⟨0, Nat.zero_le _, rfl, rfl, Below.refl _ _⟩
    case round =>
      obtain ⟨k, hk, rfl, rfl, hbel⟩ := hrel
      by_cases hlt : k < P.length
      · obtain ⟨b, off, rfl, hbb, hcc⟩ := (r3.below hbel).at_ hlt
        have h6 := HP64.out _ (List.getElem_mem hlt)
        have hz := HPz.out _ (List.getElem_mem hlt)
        have HO := Lib.hid (one_text zs HC.out P[k] hz)
        have HE := Lib.hid (none_else X P[k] (by rw [← HPX.out, goP_bit]; simp))
        have HH := Lib.hid (has_pow T P[k] HT.out h6)
        have HK : Hid (((P.take (k + 1)).all fun i => T.testBit i) = (((P.take k).all fun i => T.testBit i) && T.testBit P[k])) := by
          rw [Hid, List.take_succ_eq_append_getElem hlt, List.all_append]
          simp
        have hsz := (name_size (chk_names HC.out _ (List.getElem_mem hz))).2
        rw [← nameAt_get hz] at hsz
        generalize P[k] = i at *
        generalize ((P.take k).all fun i => T.testBit i) = al at *
        have t3 := t2.below hbel
        go_wp2_with fail
        refine Calls.mono (Parse_t t3 (nameAt zs (i : Int)) (by omega)) ?_
        rintro e w3 ⟨rfl, hb⟩
        rw [HO.out.1, HO.out.2]
        have hbel2 := hbel.trans (hb.mono hbel.size)
        have hpos : 0 < 2 ^ i := Nat.pow_pos (by decide)
        generalize 2 ^ i = q at *
        have hq0 : ((q : Int) == 0) = false := by rw [beq_eq_false_iff_ne]; omega
        have hE : (bits .andNot .u64 (q : Int) (X : Int) != 0) = false := by rw [HE.out]; rfl
        cases al
        · go_wp2
          go_roundw
          case rel => exact ⟨k + 1, by omega, by go_num, by rw [HK.out]; rfl, hbel2⟩
          case measure => simp [intOf]; omega
        · go_wp2_with fail
          refine Calls.mono (tagHas_any (T : Int) (q : Int) _) ?_
          rintro e w' ⟨rfl, rfl⟩
          rw [HH.out]
          generalize T.testBit i = tb at *
          go_wp2
          go_roundw
          case rel => exact ⟨k + 1, by omega, by go_num, by rw [HK.out]; rfl, hbel2⟩
          case measure => simp [intOf]; omega
      · have hkk : k = P.length := by omega
        subst hkk
        rw [List.take_length]
        have HA := Lib.hid (has_all T X HT.out HX.out P HPX.out)
        generalize (P.all fun i => T.testBit i) = al at *
        go_wp2_with fail
        refine Calls.mono (tagHas_any (T : Int) (X : Int) _) ?_
        rintro e w' ⟨rfl, rfl⟩
        rw [HA.out]
        go_wp2_with fail
        refine Calls.mono (Bits_any (X : Int) _ (by omega) HXi.out (t2.below hbel).tab) ?_
        rintro e w4 ⟨A4, c4, rfl, _, hb⟩
        rw [HPb.out, List.length_map]
        go_wp2
        go_ret
        exact ⟨rfl, Below.next (Below.next B2 hbel) hb⟩
  · have hn : nmsL zs (X : Int) = [] := if_neg h0
    rw [hn]
    clear r2 k2 hn
    generalize nmsW zs (X : Int) = nw at *
    have hne : ((nw : Int) != 0) = true := by rw [bne_iff_ne]; omega
    by_cases h80 : 80 < zs.length
    · go_wp2
      go_ret
      exact ⟨rfl, B2⟩
    · go_wp2
      go_ret
      exact ⟨rfl, B2⟩

end Go.Proofs.YtepngkhepcjdfaaDoor
