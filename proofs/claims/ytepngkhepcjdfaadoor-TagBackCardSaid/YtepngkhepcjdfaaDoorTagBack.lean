/- TagBack: the law's own walk. -/
import Derived.Test.YtepngkhepcjdfaaDoorTagBackPlain
import Derived.Test.YtepngkhepcjdfaaDoorTagLives
import Derived.Test.YtepngkhepcjdfaaDoorTagParseR
namespace Go.Proofs.YtepngkhepcjdfaaDoor
open Go.RowKit

theorem and_zero (t : Int) : bits .and .u64 t 0 = 0 := by
  show IntKind.u64.wrap ((BitVec.ofInt 64 t &&& BitVec.ofInt 64 0).toNat : Int) = 0
  have h : BitVec.ofInt 64 0 = 0#64 := by decide
  rw [h, BitVec.and_zero]
  rfl
theorem has_both (t x o : Nat) (ht : t < 2 ^ 64) (hx : x < 2 ^ 64) (ho : o < 2 ^ 64) :
    (bits .and .u64 (t : Int) (bits .or .u64 (x : Int) (o : Int)) == bits .or .u64 (x : Int) (o : Int)) = ((bits .and .u64 (t : Int) (x : Int) == (x : Int)) && (bits .and .u64 (t : Int) (o : Int) == (o : Int))) := by
  have h64 : 2 ^ 64 = 18446744073709551616 := by decide
  have hor : x ||| o < 2 ^ 64 := Nat.or_lt_two_pow hx ho
  rw [bits_or_u64 _ _ (by omega) (by omega) (by omega) (by omega), Int.toNat_natCast, Int.toNat_natCast]
  rw [bits_and_u64 _ _ (by omega) (by omega) (by omega) (by omega), bits_and_u64 _ _ (by omega) (by omega) (by omega) (by omega), bits_and_u64 _ _ (by omega) (by omega) (by omega) (by omega)]
  simp only [Int.toNat_natCast]
  rw [Bool.eq_iff_iff, Bool.and_eq_true, beq_iff_eq, beq_iff_eq, beq_iff_eq, Int.natCast_inj, Int.natCast_inj, Int.natCast_inj]
  constructor
  · intro h
    have hb : ∀ i, (x ||| o).testBit i = true → t.testBit i = true := fun i hi => by
      have := congrArg (fun n => n.testBit i) h
      simp only [Nat.testBit_and] at this
      rw [hi, Bool.and_true] at this
      exact this
    constructor <;> refine Nat.eq_of_testBit_eq fun i => ?_
    · rw [Nat.testBit_and]
      cases e : x.testBit i
      · simp
      · rw [hb i (by rw [Nat.testBit_or, e]; rfl)]; rfl
    · rw [Nat.testBit_and]
      cases e : o.testBit i
      · simp
      · rw [hb i (by rw [Nat.testBit_or, e, Bool.or_true])]; rfl
  · rintro ⟨h1, h2⟩
    rw [Nat.and_or_distrib_left, h1, h2]

theorem bits_nat (X : Nat) (hX : X < 2 ^ 64) : ∃ P : List Nat, bitsL (X : Int) = P.map Int.ofNat ∧ P.Pairwise (· < ·) ∧ (∀ i ∈ P, i < 64) ∧ (goP P).1 = X := by
  refine ⟨(bitsL (X : Int)).map Int.toNat, ?_, bits_rise _, fun i hi => ?_, mask_of_bits X hX⟩
  · rw [List.map_map]
    conv => lhs; rw [← List.map_id (bitsL (X : Int))]
    refine List.map_congr_left fun m hm => ?_
    have := (one_has_lt ((bitsL_mem _ m).1 hm)).1
    show m = ((m.toNat : Nat) : Int)
    omega
  · obtain ⟨m, hm, rfl⟩ := List.mem_map.1 hi
    have := one_has_lt ((bitsL_mem _ m).1 hm)
    omega
theorem rise_once {P : List Nat} {k : Nat} (h : P.Pairwise (· < ·)) (hk : k < P.length) : decide (P[k] ∈ P.take k) = false := by
  rw [decide_eq_false_iff_not]
  intro hm
  obtain ⟨i, hi, e⟩ := List.getElem_of_mem hm
  rw [List.getElem_take] at e
  rw [List.length_take] at hi
  have := List.pairwise_iff_getElem.1 h i k (by omega) hk (by omega)
  omega

set_option maxRecDepth 100000 in
set_option maxHeartbeats 8000000 in
theorem TagBack_walk (A : Option Addr) (zs : List ByteArray) (c : Nat) (X T O : Nat) (s : ByteArray) (w : World) (h : Tb A zs c w) (hX : X < 2 ^ 64) (hT : T < 2 ^ 64) (hO : O < 2 ^ 64) (hs : s.size ≤ 9223372036854775806) :
    Calls Tryd.prog 4 #[.slice A zs.length c, .int .u64 (X : Int), .int .u64 (T : Int), .int .u64 (O : Int), .string s] w fun e w' => e = .returned (.bool true) ∧ Below w.heap.size w w' := by
  have h64 : 2 ^ 64 = 18446744073709551616 := by decide
  have hX1 : (X : Int) ≤ 18446744073709551615 := by omega
  have HB := Lib.hid (has_both T X O hT hX hO)
  have HX := Lib.hid hX
  have HXi := Lib.hid hX1
  have HBT := Lib.hid (fun hw => back_text zs X hX hw)
  have HBM := Lib.hid (fun hw => back_mask zs s hw)
  have HTS := Lib.hid (show (txtB zs (X : Int)).size ≤ 9223372036854775806 from by
    have h1 := nms_small zs (X : Int)
    have h2 := joinB_size (nmsL zs (X : Int)) fun p hp => (name_size (h1.1 p hp)).2
    show (joinB (nmsL zs (X : Int))).size ≤ _
    omega)
  clear hX hT hO hX1 h64
  go_enter Tryd.func4, Tryd.ntmps4
  go_wp2_with fail
  refine Calls.mono (tag_lives_any _ h.tab) ?_
  rintro e w1 ⟨rfl, hb⟩
  have t1 := h.below hb
  have B1 : Below w.heap.size w w1 := hb
  clear hb
  by_cases h80 : 80 < zs.length
  · go_wp2
    go_ret
    exact ⟨rfl, B1⟩
  go_wp2_with fail
  refine Calls.mono (Text_t t1 (X : Int) (by omega) HXi.out) ?_
  rintro e w2 ⟨rfl, hb⟩
  have t2 := t1.below hb
  have B2 := Below.next B1 hb
  clear hb t1 B1
  generalize hnw : nmsW zs (X : Int) = nw at *
  have HNW := Lib.hid hnw
  clear hnw
  have hcase1 : nw = 0 ∨ ((nw : Int) == 0) = false := by
    rcases Nat.eq_zero_or_pos nw with e | e
    · exact .inl e
    · exact .inr (by rw [beq_eq_false_iff_ne]; omega)
  rcases hcase1 with rfl | hne1
  case' inl =>
    have HP := Lib.hid (HBT.out rfl)
    go_wp2_with fail
    refine Calls.mono (Parse_t t2 (txtB zs (X : Int)) HTS.out) ?_
    rintro e w3 ⟨rfl, hb⟩
    have t3 := t2.below hb
    have B3 := Below.next B2 hb
    clear hb t2 B2
    rw [HP.out.1, HP.out.2]
    go_wp2_with fail
  case' inr =>
    have t3 := t2
    have B3 := B2
    clear t2 B2
    go_wp2_with fail
  all_goals
    refine Calls.mono (Parse_t t3 s hs) ?_
    rintro e w4 ⟨rfl, hb⟩
    have t4 := t3.below hb
    have B4 := Below.next B3 hb
    clear hb t3 B3
    generalize hpw : prsW zs s = pw at *
    have HPW := Lib.hid hpw
    clear hpw
    have hcase2 : pw = 0 ∨ ((pw : Int) == 0) = false := by
      rcases Nat.eq_zero_or_pos pw with e | e
      · exact .inl e
      · exact .inr (by rw [beq_eq_false_iff_ne]; omega)
    rcases hcase2 with rfl | hne2
    case' inl =>
      have hM := HBM.out rfl
      generalize prsM zs s = M at *
      have hM1 : (M : Int) ≤ 18446744073709551615 := by
        have h64 : 2 ^ 64 = 18446744073709551616 := by decide
        have := hM.1
        omega
      have HM1 := Lib.hid hM1
      have HM := Lib.hid hM.2
      clear hM hM1 HBM
      go_wp2_with fail
      refine Calls.mono (Text_t t4 (M : Int) (by omega) HM1.out) ?_
      rintro e w5 ⟨rfl, hb⟩
      have t5 := t4.below hb
      have B5 := Below.next B4 hb
      clear hb t4 B4
      rw [HM.out.1, HM.out.2]
      go_wp2_with fail
    case' inr =>
      have t5 := t4
      have B5 := B4
      clear t4 B4
      generalize prsM zs s = M at *
      clear HBM
      go_wp2_with fail
    all_goals
      refine Calls.mono (Bits_any (X : Int) _ (by omega) HXi.out t5.tab) ?_
      rintro e w6 ⟨A6, c6, rfl, hr6, hb⟩
      have B6 := Below.next B5 hb
      clear hb t5 B5
      obtain ⟨P, hP, hri, hP64, hPX⟩ := bits_nat X HX.out
      rw [hP] at hr6 ⊢
      have hr7 : Rd natV _ _ A6 P := fun k z hz => hr6 k (Int.ofNat z) (by rw [List.getElem?_map, hz]; rfl)
      rw [List.length_map]
      have HR := Lib.hid hri
      have HP64 := Lib.hid hP64
      have HPX := Lib.hid hPX
      have hPl : P.length ≤ 64 := by
        have := bitsL_len (X : Int)
        rw [hP, List.length_map] at this
        exact this
      clear hr6 hP hri hP64 hPX
      go_wp2
      go_loop [19, 72] (fun v i => ∃ k m : Nat, k ≤ P.length ∧ i = .int .i64 k ∧ v = .int .u64 (m : Int) ∧ Hid (MaskAt P k m)) (fun _ i => P.length - (intOf i).toNat)
      case atStart => exact ⟨0, 0, Nat.zero_le _, rfl, rfl, MaskAt.start P⟩
      case round =>
        obtain ⟨k, m, hk, rfl, rfl, HM⟩ := hrel
        by_cases hlt : k < P.length
        · obtain ⟨b, off, rfl, hbb, hcc⟩ := hr7.at_ hlt
          have h64 := HP64.out _ (List.getElem_mem hlt)
          have hbf : m.testBit P[k] = false := by
            rw [← HM.out.mask, goP_bit]
            exact rise_once HR.out hlt
          have HQ := Lib.hid (add_bit m P[k] h64 HM.out.low hbf).1
          have HS := Lib.hid (HM.out.step hlt h64 hbf)
          clear hbf
          unfold natV at hcc
          generalize P[k] = p at *
          have hd1 : decide ((p : Int) < 0) = false := decide_eq_false (by omega)
          have hd2 : decide ((63 : Int) < (p : Int)) = false := decide_eq_false (by omega)
          go_wp2
          go_round
          case rel => exact ⟨k + 1, m ||| 2 ^ p, by omega, by go_num, by rw [HQ.out], HS.out⟩
          case measure => simp [intOf]; omega
        · have hkk : k = P.length := by omega
          subst hkk
          obtain rfl : m = X := (HM.out.all (Nat.le_refl _)).1.symm.trans HPX.out
          clear HM HPX
          go_wp2_with fail
          refine Calls.mono (tagHas_any (T : Int) (m : Int) _) ?_
          rintro e w' ⟨rfl, rfl⟩
          have HZ := Lib.hid (and_zero (T : Int))
          cases hpp : (bits .and .u64 (T : Int) (m : Int) == (m : Int))
          · have HQ := Lib.hid (HB.out.trans (by rw [hpp, Bool.false_and]))
            clear hpp
            go_wp2_with fail
            refine Calls.mono (tagHas_any (T : Int) (bits .or .u64 (m : Int) (O : Int)) _) ?_
            rintro e w' ⟨rfl, rfl⟩
            rw [HQ.out]
            go_wp2_with fail
            refine Calls.mono (tagHas_any (T : Int) 0 _) ?_
            rintro e w' ⟨rfl, rfl⟩
            rw [HZ.out]
            go_wp2
            go_ret
            exact ⟨rfl, B6⟩
          · have HQ := Lib.hid (HB.out.trans (by rw [hpp, Bool.true_and]))
            clear hpp
            go_wp2_with fail
            refine Calls.mono (tagHas_any (T : Int) (O : Int) _) ?_
            rintro e w' ⟨rfl, rfl⟩
            go_wp2_with fail
            refine Calls.mono (tagHas_any (T : Int) (bits .or .u64 (m : Int) (O : Int)) _) ?_
            rintro e w' ⟨rfl, rfl⟩
            rw [HQ.out]
            generalize (bits .and .u64 (T : Int) (O : Int) == (O : Int)) = qq
            go_wp2_with fail
            refine Calls.mono (tagHas_any (T : Int) 0 _) ?_
            rintro e w' ⟨rfl, rfl⟩
            rw [HZ.out]
            go_wp2
            go_ret
            exact ⟨rfl, B6⟩

end Go.Proofs.YtepngkhepcjdfaaDoor
