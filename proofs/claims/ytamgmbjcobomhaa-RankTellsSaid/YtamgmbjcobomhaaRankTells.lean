/- Spots in order, hits put together, as the document says (the law of 7.1 and 7.2), walked. -/
import Derived.Test.YtamgmbjcobomhaaRankLives
import Derived.Test.YtamgmbjcobomhaaRefMerge
namespace Go.Proofs.Ytamgmbjcobomhaa
open Go.RowKit Go.Shelf Go.Sort

theorem rdH_later {X Y : World} {B : Option Addr} {L : List HitT} (h : RdH X X.heap.size B L) (hb : Below X.heap.size X Y) : RdH Y Y.heap.size B L := (h.below hb).more hb.size

set_option maxRecDepth 100000 in
set_option maxHeartbeats 8000000 in
theorem RankTells_walk (S : Option Addr) (zs : List SpotT) (cs : Nat) (A : Option Addr) (xs : List HitT) (ca : Nat) (B : Option Addr) (ys : List HitT) (cb : Nat) (k : Int) (w : World)
    (hS : RdS w w.heap.size S zs) (_hs1 : zs.length ≤ cs) (_hs2 : cs ≤ 9223372036854775807) (hcS : S = none → cs = 0) (hA : RdH w w.heap.size A xs) (_ha1 : xs.length ≤ ca) (_ha2 : ca ≤ 9223372036854775807) (hcA : A = none → ca = 0)
    (hB : RdH w w.heap.size B ys) (_hb1 : ys.length ≤ cb) (_hb2 : cb ≤ 9223372036854775807) (hcB : B = none → cb = 0) :
    Calls Try.prog 3 #[.slice S zs.length cs, .slice A xs.length ca, .slice B ys.length cb, .int .i64 k] w fun e w' => e = .returned (.bool true) ∧ Below w.heap.size w w' := by
  by_cases hlong : 200 < zs.length ∨ 200 < xs.length ∨ 200 < ys.length
  · have h3 : (200 : Int) < (zs.length : Int) ∨ (¬ (200 : Int) < (zs.length : Int) ∧ (200 : Int) < (xs.length : Int)) ∨ (¬ (200 : Int) < (zs.length : Int) ∧ ¬ (200 : Int) < (xs.length : Int) ∧ (200 : Int) < (ys.length : Int)) := by omega
    clear hS hA hB hcS hcA hcB hlong
    rcases h3 with h | ⟨h, h'⟩ | ⟨h, h', h''⟩
    all_goals
      go_enter Try.func3, Try.ntmps3
      go_wp2_with fail
      refine (rank_lives_any _).mono ?_
      rintro e w1 ⟨rfl, hb⟩
      go_wp2
      go_ret
      exact ⟨rfl, hb⟩
  · have l1 : ¬ (200 : Int) < (zs.length : Int) := by omega
    have l2 : ¬ (200 : Int) < (xs.length : Int) := by omega
    have l3 : ¬ (200 : Int) < (ys.length : Int) := by omega
    have n1 : zs.length ≤ 10000 := by omega
    have n2 : xs.length ≤ 10000 := by omega
    have n3 : ys.length ≤ 10000 := by omega
    have HS := Lib.hid hS
    have HA := Lib.hid hA
    have HB := Lib.hid hB
    have HCS := Lib.hid hcS
    have HCA := Lib.hid hcA
    have HCB := Lib.hid hcB
    have N := Lib.hid (And.intro n1 (And.intro n2 n3))
    clear hS hA hB hcS hcA hcB hlong n1 n2 n3
    go_enter Try.func3, Try.ntmps3
    go_wp2_with fail
    refine (rank_lives_any _).mono ?_
    rintro e w1 ⟨rfl, hb1⟩
    have HW := Lib.hid hb1
    clear hb1
    go_wp2_with fail
    refine (Sort_any S zs cs (by have := N.out.1; omega) _ ((HS.out.below HW.out).more HW.out.size)).mono ?_
    rintro e w2 ⟨A2, c2, rfl, hr2, hc2, _, hb2⟩
    have HW2 := Lib.hid (Below.next HW.out hb2)
    have R2 := Lib.hid hr2
    clear HW hb2 hr2 hc2
    go_wp2_with fail
    refine (refSort_any S zs cs (by have := N.out.1; omega) HCS.out _ ((HS.out.below HW2.out).more HW2.out.size)).mono ?_
    rintro e w3 ⟨A3, c3, rfl, hr3, hc3, _, hb3⟩
    have HW3 := Lib.hid (Below.next HW2.out hb3)
    have R3 := Lib.hid hr3
    have R2' := Lib.hid (rdS_later R2.out hb3)
    clear HW2 hb3 hr3 hc3 R2
    have hsl := sortS_len zs
    have HSL : Hid ((sortS zs).length ≤ 9223372036854775807) := by rw [Hid, hsl]; have := N.out.1; omega
    clear hsl
    go_wp2_with fail
    refine (SameS_refl A2 A3 _ c2 c3 _ R2'.out R3.out HSL.out).mono ?_
    rintro e w4 ⟨rfl, hd⟩
    have HW4 := Lib.hid (HW3.out.trans (hd.below _))
    clear HW3 hd R2' R3 HSL
    go_wp2_with fail
    refine (Least_any S zs cs k (by have := N.out.1; omega) _ ((HS.out.below HW4.out).more HW4.out.size)).mono ?_
    rintro e w5 ⟨A5, c5, rfl, hr5, hc5, hm5, hb5⟩
    have HW5 := Lib.hid (Below.next HW4.out hb5)
    have R5 := Lib.hid hr5
    have HLL : Hid ((leastS zs k).length ≤ 9223372036854775807) := Lib.hid (by omega)
    clear HW4 hb5 hr5 hc5 hm5
    go_wp2_with fail
    refine (refLeast_any S zs cs k (by have := N.out.1; omega) HCS.out _ ((HS.out.below HW5.out).more HW5.out.size)).mono ?_
    rintro e w6 ⟨A6, c6, rfl, hr6, hc6, _, hb6⟩
    have HW6 := Lib.hid (Below.next HW5.out hb6)
    have R6 := Lib.hid hr6
    have R5' := Lib.hid (rdS_later R5.out hb6)
    clear HW5 hb6 hr6 hc6 R5
    go_wp2_with fail
    refine (SameS_refl A5 A6 _ c5 c6 _ R5'.out R6.out HLL.out).mono ?_
    rintro e w7 ⟨rfl, hd⟩
    have HW7 := Lib.hid (HW6.out.trans (hd.below _))
    clear HW6 hd R5' R6 HLL
    go_wp2_with fail
    refine (Merge_any A B xs ys ca cb _ ((HA.out.below HW7.out).more HW7.out.size) ((HB.out.below HW7.out).more HW7.out.size) (by have := N.out; omega) (by have := N.out; omega) HCA.out HCB.out).mono ?_
    rintro e w8 ⟨A8, c8, rfl, hr8, hb8⟩
    have HW8 := Lib.hid (Below.next HW7.out hb8)
    have R8 := Lib.hid hr8
    clear HW7 hb8 hr8
    go_wp2_with fail
    refine (refMerge_any A B xs ys ca cb _ ((HA.out.below HW8.out).more HW8.out.size) ((HB.out.below HW8.out).more HW8.out.size) (by have := N.out; omega) (by have := N.out; omega)).mono ?_
    rintro e w9 ⟨A9, c9, rfl, hr9, hb9⟩
    have HW9 := Lib.hid (Below.next HW8.out hb9)
    have R9 := Lib.hid hr9
    have R8' := Lib.hid (rdH_later R8.out hb9)
    have HML : Hid ((mergeH xs ys).length ≤ 9223372036854775807) := by
      rw [Hid, ← mrg_all]
      have h1 := mrg_len (sortS ((xs ++ ys).map up)) (sortS ((xs ++ ys).map up)).length
      have h2 := sortS_len ((xs ++ ys).map up)
      have h3 := N.out
      rw [List.length_map, List.length_append] at h2
      omega
    clear HW8 hb9 hr9 R8
    go_wp2_with fail
    refine (SameH_refl A8 A9 _ c8 c9 _ R8'.out R9.out HML.out).mono ?_
    rintro e w10 ⟨rfl, hd⟩
    have HW10 := Lib.hid (HW9.out.trans (hd.below _))
    clear HW9 hd R8' R9 HML
    go_wp2_with fail
    refine (Rising_any A xs ca _ ((HA.out.below HW10.out).more HW10.out.size) (by have := N.out; omega)).mono ?_
    rintro e w11 ⟨rfl, hg⟩
    have HW11 := Lib.hid (Below.next HW10.out hg.below)
    clear HW10 hg
    go_wp2_with fail
    refine (refRising_any A xs ca _ ((HA.out.below HW11.out).more HW11.out.size) (by have := N.out; omega)).mono ?_
    rintro e w12 ⟨rfl, hg⟩
    have HW12 := Lib.hid (Below.next HW11.out hg.below)
    clear HW11 hg
    go_wp2
    go_ret
    exact ⟨ret_bool (by simp), HW12.out⟩

end Go.Proofs.Ytamgmbjcobomhaa
