/- What choose tells, held against the document's answer (ChooseTells), walked. -/
import Derived.Test.YtlgkdonaplejdaaRefChoose
namespace Go.Proofs.Ytlgkdonaplejdaa
open Go.RowKit Go.Shelf Go.Sort Go.Lib

set_option maxRecDepth 100000 in
set_option maxHeartbeats 4000000 in
theorem ChooseTells_walk (A : Option Addr) (zs : List SpotT) (ca : Nat) (I : Option Addr) (its : List ItT) (ci : Nat) (most : Int) (w : World) (hA : RdS w w.heap.size A zs) (_hk0 : zs.length ≤ ca) (_hm0 : ca ≤ 9223372036854775807) (_hn0 : A = none → ca = 0) (hI : ItemsAt w w.heap.size I its) (_hil : its.length ≤ 9223372036854775807) (hmx : -9223372036854775808 ≤ most ∧ most ≤ 9223372036854775807) :
    Calls Try.prog 3 #[.slice A zs.length ca, .slice I its.length ci, .int .i64 most] w fun e w' => e = .returned (.bool true) ∧ Below w.heap.size w w' := by
  by_cases hlong : 60 < zs.length ∨ 60 < its.length
  · by_cases h1 : 60 < zs.length
    · have h2 : (60 : Int) < (zs.length : Int) := by omega
      clear hlong hA hI hmx
      go_enter Try.func3, Try.ntmps3
      go_wp2_with fail
      refine (choose_lives_any w).mono ?_
      rintro e w1 ⟨rfl, hb⟩
      go_wp2
      go_ret
      exact ⟨rfl, hb⟩
    · have h2 : ¬ (60 : Int) < (zs.length : Int) := by omega
      have h3 : (60 : Int) < (its.length : Int) := by omega
      clear hlong hA hI hmx
      go_enter Try.func3, Try.ntmps3
      go_wp2_with fail
      refine (choose_lives_any w).mono ?_
      rintro e w1 ⟨rfl, hb⟩
      go_wp2
      go_ret
      exact ⟨rfl, hb⟩
  · have l1 : ¬ (60 : Int) < (zs.length : Int) := by omega
    have l2 : ¬ (60 : Int) < (its.length : Int) := by omega
    have N : Hid (zs.length ≤ 60 ∧ its.length ≤ 60) := by rw [Hid]; omega
    have HA := Lib.hid hA
    have HI := Lib.hid hI
    have HMX := Lib.hid hmx.2
    clear hlong hA hI hmx
    go_enter Try.func3, Try.ntmps3
    go_wp2_with fail
    refine (choose_lives_any w).mono ?_
    rintro e w1 ⟨rfl, hb1⟩
    have HA1 := Lib.hid ((HA.out.below hb1).more hb1.size)
    have HI1 := Lib.hid ((HI.out.below hb1).more hb1.size)
    have HB1 := Lib.hid hb1
    have HC1 := Lib.hid (Apart_any A zs ca I its ci w1 HA1.out HI1.out (by have := N.out; omega))
    clear hb1 HA HI
    go_wp2_with fail
    refine Calls.mono HC1.out ?_
    rintro e w2 ⟨M, hO, A2, c2, rfl, ho2, hb2⟩
    have HO := Lib.hid hO
    have HA2 := Lib.hid ((HA1.out.below hb2).more hb2.size)
    have HI2 := Lib.hid ((HI1.out.below hb2).more hb2.size)
    have HB2 := Lib.hid (HB1.out.trans (hb2.mono HB1.out.size))
    have HR2 := Lib.hid (rdS_own ho2)
    have hl2 : (spotsC (splitGo its (zs.length : Int) M [] []).1).length ≤ 60 := by
      have h := (splitGo_sub its (zs.length : Int) M [] []).length_le
      rw [List.nil_append, hO.len] at h
      rw [spotsC_len]
      have := N.out
      omega
    have HL2 := Lib.hid hl2
    have HC2 := Lib.hid (refApart_any A zs ca I its ci w2 HA2.out HI2.out (by have := N.out; omega))
    clear hO ho2 hb2 hl2 HC1 HA1 HI1 HB1
    generalize hR : spotsC (splitGo its (zs.length : Int) M [] []).1 = R at *
    have HR := Lib.hid hR
    clear hR
    go_wp2_with fail
    refine Calls.mono HC2.out ?_
    rintro e w3 ⟨M', hO', A3, c3, rfl, hr3, -, -, hb3⟩
    obtain rfl : M' = M := hO'.one HO.out
    rw [HR.out] at hr3 ⊢
    have HA3 := Lib.hid ((HA2.out.below hb3).more hb3.size)
    have HI3 := Lib.hid ((HI2.out.below hb3).more hb3.size)
    have HB3 := Lib.hid (HB2.out.trans (hb3.mono HB2.out.size))
    have HS1 := Lib.hid (SameS_refl A2 A3 R c2 c3 w3 ((HR2.out.below hb3).more hb3.size) hr3 (by have := HL2.out; omega))
    clear hO' hr3 hb3 HC2 HA2 HI2 HB2 HR2
    go_wp2_with fail
    refine Calls.mono HS1.out ?_
    rintro e w4 ⟨rfl, hd⟩
    have hb4 := hd.below w3.heap.size
    have HA4 := Lib.hid ((HA3.out.below hb4).more hb4.size)
    have HI4 := Lib.hid ((HI3.out.below hb4).more hb4.size)
    have HB4 := Lib.hid (HB3.out.trans (hb4.mono HB3.out.size))
    have HC4 := Lib.hid (Best_any A zs ca I its ci most w4 HA4.out HI4.out (by have := N.out; omega) HMX.out ⟨_, HO.out⟩)
    clear hd hb4 HS1 HA3 HI3 HB3 HR HL2
    go_wp2_with fail
    refine Calls.mono HC4.out ?_
    rintro e w5 ⟨M'', hO', A5, c5, rfl, hr5, -, -, hb5⟩
    obtain rfl : M'' = M' := hO'.one HO.out
    have hl5 : (if most < 1 then [] else spotsC (bestL its most M'')).length ≤ 60 := by
      by_cases h : most < 1
      · rw [if_pos h]; simp
      · rw [if_neg h, spotsC_len]
        have h1 := bestL_len (its := its) (most := most) (M := M'') (by omega)
        rw [HO.out.len] at h1
        have := N.out
        omega
    generalize hR : (if most < 1 then [] else spotsC (bestL its most M'')) = R5 at *
    have HR := Lib.hid hR
    have HL5 := Lib.hid hl5
    have HA5 := Lib.hid ((HA4.out.below hb5).more hb5.size)
    have HI5 := Lib.hid ((HI4.out.below hb5).more hb5.size)
    have HB5 := Lib.hid (HB4.out.trans (hb5.mono HB4.out.size))
    have HR5 := Lib.hid hr5
    have HC5 := Lib.hid (refBest_any A zs ca I its ci most w5 HA5.out HI5.out (by have := N.out; omega))
    clear hO' hr5 hb5 hl5 hR HC4 HA4 HI4 HB4
    go_wp2_with fail
    refine Calls.mono HC5.out ?_
    rintro e w6 ⟨M3, hO', A6, c6, rfl, hr6, -, -, hb6⟩
    obtain rfl : M3 = M'' := hO'.one HO.out
    rw [HR.out] at hr6 ⊢
    have HB6 := Lib.hid (HB5.out.trans (hb6.mono HB5.out.size))
    have HS2 := Lib.hid (SameS_refl A5 A6 R5 c5 c6 w6 ((HR5.out.below hb6).more hb6.size) hr6 (by have := HL5.out; omega))
    clear hO' hr6 hb6 HC5 HA5 HI5 HB5 HR5
    go_wp2_with fail
    refine Calls.mono HS2.out ?_
    rintro e w7 ⟨rfl, hd⟩
    have HB7 := Lib.hid (HB6.out.trans ((hd.below w6.heap.size).mono HB6.out.size))
    clear hd HS2 HB6
    go_wp2
    go_ret
    exact ⟨rfl, HB7.out⟩

end Go.Proofs.Ytlgkdonaplejdaa
