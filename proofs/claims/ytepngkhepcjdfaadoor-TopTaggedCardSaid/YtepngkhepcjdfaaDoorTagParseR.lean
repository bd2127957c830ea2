/- The document's Parse by contract. -/
import Derived.Test.YtepngkhepcjdfaaDoorTagParse
import Derived.Test.YtepngkhepcjdfaaDoorTagRows2
import Derived.IntWalk
namespace Go.Proofs.YtepngkhepcjdfaaDoor
open Go.RowKit

theorem bit_one (m k : Nat) (hm : m < 2 ^ 64) : (bits .and .u64 ((m : Int) / 2 ^ k) 1 == 1) = m.testBit k := by
  have h64 : 2 ^ 64 = 18446744073709551616 := by decide
  have hd := div_pow_le (m : Int) k (by omega)
  rw [bits_and_one _ hd.1 (by omega), pow_cast, ← Int.natCast_ediv, Nat.testBit_eq_decide_div_mod_eq]
  rw [Bool.eq_iff_iff, beq_iff_eq, decide_eq_true_iff]
  generalize m / 2 ^ k = q
  omega
theorem add_bit (m k : Nat) (hk : k < 64) (hm : m < 2 ^ 64) (hb : m.testBit k = false) : IntKind.u64.wrap ((m : Int) + IntKind.u64.wrap (2 ^ k)) = ((m ||| 2 ^ k : Nat) : Int) ∧ m ||| 2 ^ k < 2 ^ 64 := by
  have hlt : 2 ^ k < 2 ^ 64 := Nat.pow_lt_pow_right (by decide) hk
  have h64 : 2 ^ 64 = 18446744073709551616 := by decide
  have ho : m ||| 2 ^ k < 2 ^ 64 := Nat.or_lt_two_pow hm hlt
  have hor := or_bit m k
  rw [Nat.testBit_eq_decide_div_mod_eq] at hb
  rw [if_neg (of_decide_eq_false hb)] at hor
  rw [pow_cast]
  generalize 2 ^ k = p at *
  rw [IntKind.wrap_u64 (p : Int), Int.emod_eq_of_lt (by omega) (by omega), hor, IntKind.wrap_u64, Int.emod_eq_of_lt (by omega) (by omega)]
  omega

theorem get_map_take (L : List ByteArray) (f : ByteArray → Nat) (k : Nat) (h : k < L.length) : (L.take (k + 1)).map f = (L.take k).map f ++ [f L[k]] := by
  rw [List.take_succ_eq_append_getElem h, List.map_append]
  rfl
def natV (i : Nat) : Value := .int .i64 (i : Int)
/-- The first k places, as they stand in memory. -/
def plcV (zs L : List ByteArray) (k : Nat) : List Value := ((L.take k).map (plcOf zs)).map natV
theorem plcV_step {zs L : List ByteArray} {k p : Nat} (h : (L.take (k + 1)).map (plcOf zs) = (L.take k).map (plcOf zs) ++ [p]) : plcV zs L (k + 1) = plcV zs L k ++ [.int .i64 (p : Int)] := by
  unfold plcV
  rw [h, List.map_append]
  rfl
theorem plcV_all (zs L : List ByteArray) : plcV zs L L.length = (L.map (plcOf zs)).map natV := by
  unfold plcV
  rw [List.take_length]
/-- The first k of them rise. -/
def RiseTo (P : List Nat) (k : Nat) : Prop := (P.take k).Pairwise (· < ·)
theorem RiseTo.step {P : List Nat} {k : Nat} (h : RiseTo P (k + 1)) (hk : k + 1 < P.length) (hn : P.Nodup) (hle : P[k] ≤ P[k + 1]) : RiseTo P (k + 2) := by
  unfold RiseTo at *
  rw [List.take_succ_eq_append_getElem hk, List.pairwise_append]
  refine ⟨h, List.pairwise_singleton _ _, ?_⟩
  intro a ha b hb
  obtain rfl : b = P[k + 1] := by simpa using hb
  have hne : P[k] ≠ P[k + 1] := List.pairwise_iff_getElem.1 hn k (k + 1) (by omega) hk (by omega)
  rw [List.take_succ_eq_append_getElem (by omega : k < P.length)] at h ha
  rcases List.mem_append.1 ha with ha | ha
  · have := (List.pairwise_append.1 h).2.2 a ha P[k] (by simp)
    omega
  · obtain rfl : a = P[k] := by simpa using ha
    omega
theorem rise_one (P : List Nat) : RiseTo P 1 := by
  unfold RiseTo
  cases P with
  | nil => simp
  | cons a l => simp
theorem end_rise {P : List Nat} {b : Nat} (h1 : (goP P).2.1 = false) (h : RiseTo P b) (hb : P.length ≤ b) : endW (goP P) = 0 := by
  unfold RiseTo at h
  rw [List.take_of_length_le hb] at h
  have h2 := (goP_falls P ((goP_twice P).1 h1)).2 h
  unfold endW
  rw [h1, h2]
  rfl
theorem end_falls {P : List Nat} {k : Nat} (h1 : (goP P).2.1 = false) (hk : k + 1 < P.length) (h : P[k + 1] < P[k]) : endW (goP P) = 11 := by
  have h2 : (goP P).2.2 = true := by
    cases e : (goP P).2.2
    · have := List.pairwise_iff_getElem.1 ((goP_falls P ((goP_twice P).1 h1)).1 e) k (k + 1) (by omega) hk (by omega)
      omega
    · rfl
  unfold endW
  rw [h1, h2]
  rfl
theorem end_twice {P : List Nat} {k : Nat} (h : (goP (P.take k)).2.1 = true) : endW (goP P) = 10 := by
  have h2 : (goP P).2.1 = true := by
    cases e : (goP P).2.1
    · have h3 := (goP_twice _).2 (((goP_twice P).1 e).sublist (List.take_sublist k P))
      rw [h3] at h
      cases h
    · rfl
  unfold endW
  rw [h2]
  rfl

theorem cutAll_len : ∀ (m : Nat) (s : ByteArray), (cutAll m s).length ≤ m + 1
  | 0, s => by rw [cutAll]; exact Nat.le_refl _
  | m + 1, s => by
    rw [cutAll]
    split
    · simp
    · have := cutAll_len m (s.extract ((firstIdx s 43).toNat + 1) s.size)
      simp only [List.length_cons]
      omega
theorem partsB_len (s : ByteArray) : (partsB s).length ≤ s.size + 1 := by
  unfold partsB
  split
  · simp
  · exact cutAll_len _ _
theorem not_all {zs L : List ByteArray} {k : Nat} (hk : k < L.length) (h : isIn zs L[k] = false) : L.all (isIn zs) = false := by
  cases e : L.all (isIn zs)
  · rfl
  · rw [List.all_eq_true.1 e _ (List.getElem_mem hk)] at h
    cases h
theorem plc_all {zs L : List ByteArray} (ht : chkT zs = 0) (h : L.all (isIn zs) = true) : ∀ i ∈ L.map (plcOf zs), i < 64 := fun i hi => by
  obtain ⟨p, hp, rfl⟩ := List.mem_map.1 hi
  exact plc_lt ht (List.all_eq_true.1 h p hp)
theorem goP_take {P : List Nat} {k : Nat} (hk : k < P.length) : goP (P.take (k + 1)) = stepP (goP (P.take k)) P[k] := by
  rw [List.take_succ_eq_append_getElem hk, goP_snoc]
/-- The mask of the first k places, if none was twice. -/
structure MaskAt (P : List Nat) (k m : Nat) : Prop where
  mask : (goP (P.take k)).1 = m
  once : (goP (P.take k)).2.1 = false
  low : m < 2 ^ 64
theorem MaskAt.start (P : List Nat) : MaskAt P 0 0 := ⟨rfl, rfl, by decide⟩
theorem MaskAt.step {P : List Nat} {k m : Nat} (h : MaskAt P k m) (hk : k < P.length) (h64 : P[k] < 64) (hb : m.testBit P[k] = false) : MaskAt P (k + 1) (m ||| 2 ^ P[k]) := by
  refine ⟨?_, ?_, (add_bit m _ h64 h.low hb).2⟩
  · rw [goP_take hk]
    show (goP (P.take k)).1 ||| _ = _
    rw [h.mask]
  · rw [goP_take hk]
    show ((goP (P.take k)).2.1 || (goP (P.take k)).1.testBit _) = false
    rw [h.once, h.mask, hb]
    rfl
theorem MaskAt.twice {P : List Nat} {k m : Nat} (h : MaskAt P k m) (hk : k < P.length) (hb : m.testBit P[k] = true) : endW (goP P) = 10 := by
  refine end_twice (k := k + 1) ?_
  rw [goP_take hk]
  show ((goP (P.take k)).2.1 || (goP (P.take k)).1.testBit _) = true
  rw [h.mask, hb, Bool.or_true]
theorem MaskAt.all {P : List Nat} {k m : Nat} (h : MaskAt P k m) (hk : P.length ≤ k) : (goP P).1 = m ∧ (goP P).2.1 = false := by
  have e := List.take_of_length_le hk
  have h1 := h.mask
  have h2 := h.once
  rw [e] at h1 h2
  exact ⟨h1, h2⟩

set_option maxRecDepth 100000 in
set_option maxHeartbeats 8000000 in
theorem refParse_any (A : Option Addr) (zs : List ByteArray) (c : Nat) (s : ByteArray) (w : World) (hA : Rd Value.string w w.heap.size A zs) (hm : zs.length ≤ 9223372036854775807) (hz : ∀ z ∈ zs, z.size ≤ 9223372036854775807) (hs : s.size ≤ 100000) :
    Calls Tryd.prog 12 #[.slice A zs.length c, .string s] w (MaskOut (prsM zs s) (prsW zs s) w) := by
  obtain ⟨i0, hi0, hz0, hz1, hz2⟩ := info_parts info_num
  by_cases ht : chkT zs = 0
  · have HT := Lib.hid ht
    go_enter Tryd.func12, Tryd.ntmps12
    go_wp2_with fail
    refine (refCheck_any A zs c _ hA hm hz).mono ?_
    rintro e w1 ⟨rfl, rfl⟩
    rw [ht]
    clear ht
    go_wp2_with fail
    refine (refParts_any s _ hs).mono ?_
    rintro e w1 ⟨A1, c1, rfl, hA1, hb1⟩
    have HE := Lib.hid (prs_end zs s HT.out)
    have HN := Lib.hid (prs_none zs s HT.out)
    have hLm := partsB_len s
    generalize partsB s = L at HE HN hA1 hLm
    go_wp2
    go_loopw [9, 25] (fun v i wr => ∃ k : Nat, k ≤ L.length ∧ i = .int .i64 k ∧ wr.ownsRow w1.heap.size 3 1 v k (plcV zs L k) ∧ Hid ((L.take k).all (isIn zs) = true) ∧ Below w1.heap.size w1 wr)
      (fun _ i _ => L.length - (intOf i).toNat)
    case atStart => exact ⟨0, Nat.zero_le _, rfl, World.ownsRow_nil _ _ _ _, rfl, Below.refl _ _⟩
    case round =>
      obtain ⟨k, hk, rfl, hown, HI, hbel⟩ := hrel
      have hsz := hbel.size
      by_cases hlt : k < L.length
      · obtain ⟨b, off, rfl, hbb, hcc⟩ := (hA1.below hbel).at_ hlt
        have hA' := ((hA.below hb1).below (hbel.mono hb1.size)).more (Nat.le_trans hb1.size hsz)
        have htk := get_map_take L (plcOf zs) k hlt
        have hno := fun h => not_all (zs := zs) hlt h
        have hall : isIn zs L[k] = true → (L.take (k + 1)).all (isIn zs) = true := fun h => by
          rw [List.take_succ_eq_append_getElem hlt, List.all_append, HI.out]
          simpa using h
        generalize L[k] = x at hcc htk hno hall
        rcases idxOf_ways zs x with ⟨hi, _⟩ | ⟨p, hi, hp, _⟩
        · have HX := Lib.hid hi
          have HW := Lib.hid (HN.out (hno (by simp [isIn, hi])))
          clear hi htk hno hall
          go_wp2_with fail
          refine (find_any A zs c x _ hA' hm).mono ?_
          rintro e w2 ⟨rfl, rfl⟩
          rw [HX.out]
          go_wp2
          go_ret2
          exact ⟨by rw [HW.out.1, HW.out.2]; rfl, hb1.trans (hbel.mono hb1.size)⟩
        · have HX := Lib.hid hi
          have HI' := Lib.hid (hall (by simp [isIn, hi]))
          have hpl : plcOf zs x = p := by unfold plcOf; rw [hi]; rfl
          rw [hpl] at htk
          have HK := Lib.hid htk
          clear hi htk hno hall hpl
          go_wp2_with fail
          refine (find_any A zs c x _ hA' hm).mono ?_
          rintro e w2 ⟨rfl, rfl⟩
          rw [HX.out]
          go_wp2_with (at_builtin; refine wpList_append_own _ rfl _ _ 36 rfl w1.heap.size 3 i0 (.int .i64 0) 1 8 Tryd.underlying36 hi0 hz0 hz1 hz2 rfl (by decide) _ _ _ rfl (hown.alloc _) ⟨wr.heap.size, 0, none⟩ 1 1 [.int .i64 (p : Int)] rfl rfl ?c1 ?c2 ?c3 ?c4 ?c5 ?_)
          case c1 =>
            intro j u hj
            match j, hj with
            | 0, hj => simp at hj; subst hj; simp [Addr.add]
          case c2 => intro u hu; simp at hu; subst hu; rfl
          case c3 => unfold maxLen; omega
          case c4 => omega
          case c5 => simp; omega
          intro v' w2 hown2 hgrow _
          have hB := own_base (hown.alloc (.cells #[.int .i64 (p : Int)] 3)) (hbel.alloc hsz _) (Nat.le_refl _) (by simp; omega) hgrow
          clear hgrow hown
          go_wp2
          go_roundw
          case rel =>
            refine ⟨k + 1, by omega, by go_num, ?_, HI'.out, hB⟩
            rw [plcV_step HK.out]
            exact hown2
          case measure => simp [intOf]; omega
      · have hkk : k = L.length := by omega
        subst hkk
        have hIA := HI.out
        rw [List.take_length] at hIA
        rw [plcV_all] at hown
        have HW := Lib.hid (HE.out hIA)
        have HP64 := Lib.hid (plc_all HT.out hIA)
        have hPl : (L.map (plcOf zs)).length = L.length := List.length_map _
        generalize L.map (plcOf zs) = P at hown HW HP64 hPl
        clear HE HN hIA HI hA1
        obtain ⟨A9, c9, rfl, _, _⟩ := own_slice hown
        have hR9 := Rd.of_own hown
        have hBw := hb1.trans (hbel.mono hb1.size)
        clear hown
        rw [← hPl]
        rw [← hPl] at hLm
        clear hPl
        go_wp2
        go_loop [7, 41] (fun v i => ∃ k m : Nat, k ≤ P.length ∧ i = .int .i64 k ∧ v = .int .u64 (m : Int) ∧ Hid (MaskAt P k m))
          (fun _ i => P.length - (intOf i).toNat)
        case atStart => exact ⟨0, 0, Nat.zero_le _, rfl, rfl, MaskAt.start P⟩
        case round =>
          obtain ⟨k, m, hk, rfl, rfl, HM⟩ := hrel
          by_cases hlt : k < P.length
          · obtain ⟨b, off, rfl, hbb, hcc⟩ := hR9.at_ hlt
            have h64 := HP64.out _ (List.getElem_mem hlt)
            have hq := bit_one m P[k] HM.out.low
            have hadd := fun (h : m.testBit P[k] = false) => add_bit m P[k] h64 HM.out.low h
            have hnx := fun (h : m.testBit P[k] = false) => HM.out.step hlt h64 h
            have htw := fun (h : m.testBit P[k] = true) => HM.out.twice hlt h
            unfold natV at hcc
            generalize P[k] = p at *
            cases hb : m.testBit p
            · have HS := Lib.hid (hnx hb)
              have HQ := Lib.hid (hadd hb).1
              have hlow := HM.out.low
              rw [hb] at hq
              clear hnx htw hadd hb
              go_wp2
              go_round
              case rel => exact ⟨k + 1, m ||| 2 ^ p, by omega, by go_num, by rw [HQ.out], HS.out⟩
              case measure => simp [intOf]; omega
            · have HS := Lib.hid (htw hb)
              rw [hb] at hq
              clear hnx htw hadd hb
              go_wp2
              go_ret2
              have e := HW.out.1.trans HS.out
              exact ⟨by rw [HW.out.2, e]; rfl, hBw⟩
          · have hkk : k = P.length := by omega
            subst hkk
            have HG := Lib.hid (HM.out.all (Nat.le_refl _))
            clear HM
            go_wp2
            go_loopw [59] (fun i w' => ∃ k : Nat, k ≤ P.length ∧ i = .int .i64 k ∧ Hid (RiseTo P k) ∧ Drawn wr w')
              (fun i _ => P.length - (intOf i).toNat)
            case atStart => exact ⟨0, Nat.zero_le _, rfl, by simp [Hid, RiseTo], Drawn.refl⟩
            case round =>
              obtain ⟨k, hk, rfl, HR, hdr⟩ := hrel
              by_cases hlt : k < P.length
              · rcases k with _ | k
                · have h1 := Lib.hid (rise_one P)
                  have hd0 : decide (((0 : Nat) : Int) > 0) = false := rfl
                  go_wp2
                  go_quiet (fail)
                  go_wp2
                  go_roundw
                  case rel => exact ⟨1, by omega, by go_num, h1.out, hdr.step _⟩
                  case measure => simp [intOf]; omega
                · obtain ⟨b, off, rfl, hbb, hcc⟩ := (hR9.below (hdr.below _)).at_ hlt
                  obtain ⟨b', off', he, hbb', hcc'⟩ := (hR9.below (hdr.below _)).at_ (Nat.lt_of_succ_lt hlt)
                  injection he with he
                  injection he with he1 he2
                  subst he1 he2
                  unfold natV at hcc hcc'
                  have HS := Lib.hid (fun (h : P[k] ≤ P[k + 1]) => HR.out.step hlt ((goP_twice P).1 HG.out.2) h)
                  have HF := Lib.hid (fun (h : P[k + 1] < P[k]) => end_falls HG.out.2 hlt h)
                  generalize P[k + 1] = q at *
                  generalize P[k]'(Nat.lt_of_succ_lt hlt) = p at *
                  have hd0 : decide (((k + 1 : Nat) : Int) > 0) = true := decide_eq_true (by omega)
                  have hkl : (k : Int) < (P.length : Int) := by omega
                  have hkl1 : ((k + 1 : Nat) : Int) < (P.length : Int) := by omega
                  have hk0 : (0 : Int) ≤ (k : Int) := by omega
                  have hk1 : (0 : Int) ≤ ((k + 1 : Nat) : Int) := by omega
                  have e2 : ((k : Int)).toNat = k := Int.toNat_natCast k
                  have e3 : (((k + 1 : Nat) : Int)).toNat = k + 1 := Int.toNat_natCast _
                  have e1 : IntKind.i64.wrap (((k + 1 : Nat) : Int) - 1) = (k : Int) := by
                    rw [IntWalk.i64_in _ (by omega)]
                    omega
                  rcases Nat.lt_or_ge q p with hqp | hqp
                  · have HW1 := Lib.hid (HF.out hqp)
                    have hd : decide ((q : Int) < (p : Int)) = true := by simpa using hqp
                    clear HF HS
                    go_wp2
                    go_quiet (fail)
                    go_wp2
                    go_ret2
                    have e := HW.out.1.trans HW1.out
                    exact ⟨by rw [HW.out.2, e]; rfl, hBw.trans ((hdr.step _).below _)⟩
                  · have HW1 := Lib.hid (HS.out hqp)
                    have hd : decide ((q : Int) < (p : Int)) = false := by simpa using hqp
                    clear HF HS
                    go_wp2
                    go_quiet (fail)
                    go_wp2
                    go_roundw
                    case rel => exact ⟨k + 2, by omega, by go_num, HW1.out, hdr.step _⟩
                    case measure => simp [intOf]; omega
              · have hkk : k = P.length := by omega
                subst hkk
                have HZ := Lib.hid (end_rise HG.out.2 HR.out (Nat.le_refl _))
                go_wp2
                go_ret2
                have e := HW.out.1.trans HZ.out
                exact ⟨by rw [HW.out.2, e, HG.out.1]; rfl, hBw.trans (hdr.below _)⟩
  · have HW := Lib.hid (prs_err zs s ht)
    go_enter Tryd.func12, Tryd.ntmps12
    go_wp2_with fail
    refine (refCheck_any A zs c _ hA hm hz).mono ?_
    rintro e w1 ⟨rfl, rfl⟩
    generalize chkT zs = t at ht HW
    have ht' : ((t : Int) != 0) = true := by rw [bne_iff_ne]; omega
    go_wp2
    go_ret2
    exact ⟨by rw [HW.out.1, HW.out.2]; rfl, Below.refl _ _⟩

end Go.Proofs.YtepngkhepcjdfaaDoor
