/- The law BitsetAlgebra: its walk. -/
import Derived.Test.YtkfbgadcfinlfaaDoorBitAlg2
namespace Go.Proofs.YtkfbgadcfinlfaaDoor
open Go.RowKit

/-- What a set of words in memory is good for. -/
structure SetAt (w : World) (A : Option Addr) (xs : List Int) (c : Nat) : Prop where
  rd : Rd (Value.int .u64) w w.heap.size A xs
  words : Words xs
  cap : xs.length ≤ c
  top : c ≤ 9223372036854775807
theorem SetAt.below {w w' : World} {A : Option Addr} {xs : List Int} {c : Nat} (h : SetAt w A xs c) (hb : Below w.heap.size w w') : SetAt w' A xs c :=
  ⟨(h.rd.below hb).more hb.size, h.words, h.cap, h.top⟩
theorem SetAt.nil (w : World) : SetAt w none [] 0 := ⟨Rd.nil, (by intro z hz; cases hz), (by simp), (by simp)⟩

theorem trim_len (l : List Int) : (trimR l).length ≤ l.length := by
  induction l using rev_ind with
  | start => exact Nat.le_refl _
  | snoc l z ih =>
    by_cases hz : z = 0
    · subst hz; rw [trimR_zero]; simp; omega
    · rw [trimR_ne _ _ hz]; exact Nat.le_refl _
theorem trim_small (f : Int → Int → Int) (xs ys : List Int) : (trimR (zipL f xs ys)).length ≤ 9223372036854775807 := by
  have h := trim_len (zipL f xs ys)
  rw [zipL_length, List.length_take, List.length_take] at h
  omega

set_option maxRecDepth 100000 in
set_option maxHeartbeats 8000000 in
theorem Algebra_walk (A B : Option Addr) (xs ys : List Int) (ca cb : Nat) (n : Int) (w : World) (hA : SetAt w A xs ca) (hB : SetAt w B ys cb) (hT : Tab w) :
    Calls Tryd.prog 4 #[.slice A xs.length ca, .slice B ys.length cb, .int .i64 n] w fun e w' => e = .returned (.bool true) ∧ Below w.heap.size w w' := by
  by_cases hb1 : 200 < xs.length
  · have hb : (200 : Int) < (xs.length : Int) := by omega
    clear hb1 hA hB
    have hlv := Lib.hid (lives_any w hT)
    go_enter Tryd.func4, Tryd.ntmps4
    go_wp2_with fail
    refine hlv.out.mono ?_
    rintro e w1 ⟨rfl, hb⟩
    go_wp2
    go_ret
    exact ⟨rfl, hb⟩
  · have hs1 : (xs.length : Int) ≤ 200 := by omega
    clear hb1
    by_cases hb2 : 200 < ys.length
    · have hb : (200 : Int) < (ys.length : Int) := by omega
      clear hb2 hA hB
      have hlv := Lib.hid (lives_any w hT)
      go_enter Tryd.func4, Tryd.ntmps4
      go_wp2_with fail
      refine hlv.out.mono ?_
      rintro e w1 ⟨rfl, hb⟩
      go_wp2
      go_ret
      exact ⟨rfl, hb⟩
    · have hs2 : (ys.length : Int) ≤ 200 := by omega
      clear hb2
      have hlv := Lib.hid (lives_any w hT)
      obtain ⟨U, hU⟩ : ∃ U, U = trimR (zipL orF xs ys) := ⟨_, rfl⟩
      obtain ⟨M, hM⟩ : ∃ M, M = trimR (zipL andF xs ys) := ⟨_, rfl⟩
      obtain ⟨D, hD⟩ : ∃ D, D = trimR (zipL andNotF xs ys) := ⟨_, rfl⟩
      obtain ⟨R, hR⟩ : ∃ R, R = trimR (zipL andNotF ys xs) := ⟨_, rfl⟩
      have wU : Words U := by rw [hU]; exact words_zip _ orF_range _ _
      have wM : Words M := by rw [hM]; exact words_zip _ andF_range _ _
      have wD : Words D := by rw [hD]; exact words_zip _ andNotF_range _ _
      have wR : Words R := by rw [hR]; exact words_zip _ andNotF_range _ _
      have uU := has_or xs ys hA.words hB.words n
      have uM := has_and xs ys hA.words hB.words n
      have uD := has_andNot xs ys hA.words hB.words n
      have HCnt := Lib.hid (show cntS U = cntS M + cntS D + cntS R from by rw [hU, hM, hD, hR]; exact cnt_parts xs ys)
      have cM := cnt_small M
      have cD := cnt_small D
      have cR := cnt_small R
      have cU := cnt_small U
      have HW := Lib.hid (show trimR (zipL orF M D) = trimR (zipL orF xs []) from by rw [hM, hD]; exact parts_whole xs ys hA.words)
      have HO := Lib.hid (show trimR (zipL orF ys xs) = U from by rw [hU]; exact or_comm' ys xs)
      have HN := Lib.hid (show trimR (zipL andF D ys) = [] from by rw [hD]; exact apart_none xs ys)
      rw [← hU] at uU
      rw [← hM] at uM
      rw [← hD] at uD
      have hlenU : U.length ≤ 9223372036854775807 := by rw [hU]; exact trim_small orF xs ys
      have hlen : (trimR (zipL orF xs [])).length ≤ 9223372036854775807 := trim_small orF xs []
      have HU := Lib.hid hU
      have HM := Lib.hid hM
      have HD := Lib.hid hD
      have HR := Lib.hid hR
      clear hU hM hD hR
      rcases hp : hasB xs n with _ | _ <;> rcases hq : hasB ys n with _ | _
      all_goals
        rw [hp, hq] at uU uM uD
        have vU := Lib.hid uU
        have vM := Lib.hid uM
        have vD := Lib.hid uD
        have vp := Lib.hid hp
        have vq := Lib.hid hq
        clear uU uM uD hp hq
        go_enter Tryd.func4, Tryd.ntmps4
        go_wp2_with fail
        refine hlv.out.mono ?_
        rintro e w1 ⟨rfl, hb⟩
        have hA1 := hA.below hb
        have hB1 := hB.below hb
        have hW1 := hb
        clear hb hA hB hlv
        go_wp2_with fail
        refine Calls.mono (Has_any A xs ca n _ hA1.rd hA1.words) ?_
        rintro e w' ⟨rfl, rfl⟩
        rw [vp.out]
        go_wp2_with fail
        refine Calls.mono (Has_any B ys cb n _ hB1.rd hB1.words) ?_
        rintro e w' ⟨rfl, rfl⟩
        rw [vq.out]
        go_wp2_with fail
        refine Calls.mono (Union_any A B xs ys ca cb _ hA1.rd hB1.rd hA1.words hB1.words hA1.cap hA1.top hB1.cap hB1.top) ?_
        rintro e w2 ⟨uA, uc, rfl, ur, u1, u2, hb⟩
        rw [← HU.out] at ur u1 ⊢
        have hA2 := hA1.below hb
        have hB2 := hB1.below hb
        have hu2 := SetAt.mk ur wU u1 u2
        have hW2 := Below.next hW1 hb
        clear hb hW1 hA1 hB1
        go_wp2_with fail
        refine Calls.mono (Meet_any A B xs ys ca cb _ hA2.rd hB2.rd hA2.words hB2.words hA2.cap hA2.top hB2.cap hB2.top) ?_
        rintro e w3 ⟨mA, mc, rfl, mr, m1, m2, hb⟩
        rw [← HM.out] at mr m1 ⊢
        have hA3 := hA2.below hb
        have hB3 := hB2.below hb
        have hu3 := hu2.below hb
        have hm3 := SetAt.mk mr wM m1 m2
        have hW3 := Below.next hW2 hb
        clear hb hW2 hA2 hB2 hu2
        go_wp2_with fail
        refine Calls.mono (Less_any A B xs ys ca cb _ hA3.rd hB3.rd hA3.words hB3.words hA3.cap hA3.top hB3.cap hB3.top) ?_
        rintro e w4 ⟨dA, dc, rfl, dr, d1, d2, hb⟩
        rw [← HD.out] at dr d1 ⊢
        have hA4 := hA3.below hb
        have hB4 := hB3.below hb
        have hu4 := hu3.below hb
        have hm4 := hm3.below hb
        have hd4 := SetAt.mk dr wD d1 d2
        have hW4 := Below.next hW3 hb
        clear hb hW3 hA3 hB3 hu3 hm3
        go_wp2_with fail
        refine Calls.mono (Less_any B A ys xs cb ca _ hB4.rd hA4.rd hB4.words hA4.words hB4.cap hB4.top hA4.cap hA4.top) ?_
        rintro e w5 ⟨rA, rc, rfl, rr, r1, r2, hb⟩
        rw [← HR.out] at rr r1 ⊢
        have hA5 := hA4.below hb
        have hB5 := hB4.below hb
        have hu5 := hu4.below hb
        have hm5 := hm4.below hb
        have hd5 := hd4.below hb
        have hr5 := SetAt.mk rr wR r1 r2
        have hW5 := Below.next hW4 hb
        clear hb hW4 hA4 hB4 hu4 hm4 hd4
        go_wp2_with fail
        refine Calls.mono (Has_any uA U uc n _ hu5.rd wU) ?_
        rintro e w' ⟨rfl, rfl⟩
        rw [vU.out]
        go_wp2_with fail
        refine Calls.mono (Has_any mA M mc n _ hm5.rd wM) ?_
        rintro e w' ⟨rfl, rfl⟩
        rw [vM.out]
        go_wp2_with fail
        refine Calls.mono (Has_any dA D dc n _ hd5.rd wD) ?_
        rintro e w' ⟨rfl, rfl⟩
        rw [vD.out]
        have hcc := HCnt.out
        clear HCnt
        go_wp2_with fail
        refine Calls.mono (Count_any uA U uc _ hu5.rd wU hu5.cap hu5.top) ?_
        rintro e w' ⟨rfl, rfl⟩
        generalize cntS U = cu at *
        go_wp2_with fail
        refine Calls.mono (Count_any mA M mc _ hm5.rd wM hm5.cap hm5.top) ?_
        rintro e w' ⟨rfl, rfl⟩
        generalize cntS M = cm at *
        go_wp2_with fail
        refine Calls.mono (Count_any dA D dc _ hd5.rd wD hd5.cap hd5.top) ?_
        rintro e w' ⟨rfl, rfl⟩
        generalize cntS D = cd at *
        go_wp2_with fail
        refine Calls.mono (Count_any rA R rc _ hr5.rd wR hr5.cap hr5.top) ?_
        rintro e w' ⟨rfl, rfl⟩
        generalize cntS R = cr at *
        have hce : ((cu : Int) == (cm : Int) + (cd : Int) + (cr : Int)) = true := by rw [beq_iff_eq]; omega
        clear hcc
        go_wp2_with fail
        refine Calls.mono (Union_any mA dA M D mc dc _ hm5.rd hd5.rd wM wD hm5.cap hm5.top hd5.cap hd5.top) ?_
        rintro e w6 ⟨pA, pc, rfl, pr, _, _, hb⟩
        rw [HW.out] at pr ⊢
        have hA6 := hA5.below hb
        have hB6 := hB5.below hb
        have hu6 := hu5.below hb
        have hm6 := hm5.below hb
        have hd6 := hd5.below hb
        have hr6 := hr5.below hb
        have hp6 := pr
        have hW6 := Below.next hW5 hb
        clear hb hW5 hA5 hB5 hu5 hm5 hd5 hr5
        go_wp2_with fail
        refine Calls.mono (Union_any A none xs [] ca 0 _ hA6.rd Rd.nil hA6.words (SetAt.nil w).words hA6.cap hA6.top (by simp) (by simp)) ?_
        rintro e w7 ⟨qA, qc, rfl, qr, _, _, hb⟩
        have hA7 := hA6.below hb
        have hB7 := hB6.below hb
        have hu7 := hu6.below hb
        have hm7 := hm6.below hb
        have hd7 := hd6.below hb
        have hr7 := hr6.below hb
        have hp7 := (hp6.below hb).more hb.size
        have hq7 := qr
        have hW7 := Below.next hW6 hb
        clear hb hW6 hA6 hB6 hu6 hm6 hd6 hr6 hp6
        go_wp2_with fail
        refine Calls.mono (Same_refl pA qA _ _ _ _ hp7 hq7 hlen) ?_
        rintro e w8 ⟨rfl, hd0⟩
        have hb := hd0.below w7.heap.size
        have hA8 := hA7.below hb
        have hB8 := hB7.below hb
        have hu8 := hu7.below hb
        have hm8 := hm7.below hb
        have hd8 := hd7.below hb
        have hr8 := hr7.below hb
        have hW8 := Below.next hW7 hb
        clear hb hW7 hA7 hB7 hu7 hm7 hd7 hr7
        go_wp2_with fail
        refine Calls.mono (Union_any B A ys xs cb ca _ hB8.rd hA8.rd hB8.words hA8.words hB8.cap hB8.top hA8.cap hA8.top) ?_
        rintro e w9 ⟨vA, vc, rfl, vr, _, _, hb⟩
        rw [HO.out] at vr ⊢
        have hA9 := hA8.below hb
        have hB9 := hB8.below hb
        have hu9 := hu8.below hb
        have hm9 := hm8.below hb
        have hd9 := hd8.below hb
        have hr9 := hr8.below hb
        have hv9 := vr
        have hW9 := Below.next hW8 hb
        clear hb hW8 hA8 hB8 hu8 hm8 hd8 hr8
        go_wp2_with fail
        refine Calls.mono (Same_refl uA vA U _ _ _ hu9.rd hv9 hlenU) ?_
        rintro e w10 ⟨rfl, hd0⟩
        have hb := hd0.below w9.heap.size
        have hA10 := hA9.below hb
        have hB10 := hB9.below hb
        have hu10 := hu9.below hb
        have hm10 := hm9.below hb
        have hd10 := hd9.below hb
        have hr10 := hr9.below hb
        have hW10 := Below.next hW9 hb
        clear hb hW9 hA9 hB9 hu9 hm9 hd9 hr9
        go_wp2_with fail
        refine Calls.mono (Meet_any dA B D ys dc cb _ hd10.rd hB10.rd wD hB10.words hd10.cap hd10.top hB10.cap hB10.top) ?_
        rintro e w11 ⟨xA, xc, rfl, _, _, _, hb⟩
        rw [HN.out]
        have hA11 := hA10.below hb
        have hB11 := hB10.below hb
        have hu11 := hu10.below hb
        have hm11 := hm10.below hb
        have hd11 := hd10.below hb
        have hr11 := hr10.below hb
        have hW11 := Below.next hW10 hb
        clear hb hW10 hA10 hB10 hu10 hm10 hd10 hr10
        go_wp2
        go_ret
        exact ⟨rfl, hW11⟩

end Go.Proofs.YtkfbgadcfinlfaaDoor
