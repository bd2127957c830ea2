/- Clocks as the document says (the law of 17.1 and 17.2), walked. -/
import Derived.Test.YtabcnmpnjnegdaaClkLives
import Derived.Test.YtabcnmpnjnegdaaClkRef2
namespace Go.Proofs.Ytabcnmpnjnegdaa
open Go.RowKit

/-- A list of numbers, in a world that has grown from w. -/
def RdI (w : World) (A : Option Addr) (zs : List Int) : Prop := Rd (Value.int .i64) w w.heap.size A zs
theorem RdI.later {w w' : World} {A : Option Addr} {zs : List Int} (h : RdI w A zs) (hb : Below w.heap.size w w') : RdI w' A zs := rd_later h hb

section
variable {A B : Option Addr} {zs ys L : List Int} {c d m : Nat} {x r : Int} {w : World}
theorem refAt_is (h : atZ zs x = r) (hA : RdI w A zs) : Calls Try.prog 11 #[.slice A zs.length c, .int .i64 x] w fun e w' => e = .returned (.int .i64 r) ∧ w = w' := h ▸ refAt_any A zs c x w hA
theorem refShort_is (h : shortL (numL zs) = L) (hm : L.length = m) (hA : RdI w A zs) : Calls Try.prog 14 #[.slice A zs.length c] w (IntsAre L m w) := by
  subst h
  exact (refShort_any A zs c w hA).mono fun _ _ k => k.are hm
theorem refTick_is (h : shortL (tickN (numL zs) x) = L) (hm : L.length = m) (hA : RdI w A zs) : Calls Try.prog 16 #[.slice A zs.length c, .int .i64 x] w (IntsAre L m w) := by
  subst h
  exact (refTick_any A zs c x w hA).mono fun _ _ k => k.are hm
theorem refJoin_is (h : shortL (joinN (numL zs) (numL ys)) = L) (hm : L.length = m) (hA : RdI w A zs) (hB : RdI w B ys) : Calls Try.prog 18 #[.slice A zs.length c, .slice B ys.length d] w (IntsAre L m w) := by
  subst h
  exact (refJoin_any A B zs ys c d w hA hB).mono fun _ _ k => k.are hm
theorem refCompare_is (h : cmpN (numL zs) (numL ys) = r) (hA : RdI w A zs) (hB : RdI w B ys) : Calls Try.prog 20 #[.slice A zs.length c, .slice B ys.length d] w fun e w' => e = .returned (.int .i64 r) ∧ w = w' := h ▸ refCompare_any A B zs ys c d w hA hB
end

set_option maxRecDepth 100000 in
set_option maxHeartbeats 8000000 in
theorem ClockTells_walk (A : Option Addr) (zs : List Int) (c : Nat) (B : Option Addr) (ys : List Int) (d : Nat) (x : Int) (w : World)
    (hA : Rd (Value.int .i64) w w.heap.size A zs) (_ : zs.length ≤ 9223372036854775807) (_ : zs.length ≤ c) (_ : A = none → c = 0)
    (hB : Rd (Value.int .i64) w w.heap.size B ys) (_ : ys.length ≤ 9223372036854775807) (_ : ys.length ≤ d) (_ : B = none → d = 0) :
    Calls Try.prog 3 #[.slice A zs.length c, .slice B ys.length d, .int .i64 x] w fun e w' => e = .returned (.bool true) ∧ Below w.heap.size w w' := by
  have hA' : RdI w A zs := hA
  have hB' : RdI w B ys := hB
  clear hA hB
  by_cases h1 : 100 < zs.length
  · have hi : (100 : Int) < (zs.length : Int) := by omega
    clear hA' hB'
    go_enter Try.func3, Try.ntmps3
    go_wp2_with fail
    refine (clock_lives_any _).mono ?_
    rintro e w1 ⟨rfl, hb⟩
    go_wp2
    go_ret
    exact ⟨rfl, hb⟩
  have hi1 : ¬ (100 : Int) < (zs.length : Int) := by omega
  by_cases h2 : 100 < ys.length
  · have hi : (100 : Int) < (ys.length : Int) := by omega
    clear hA' hB'
    go_enter Try.func3, Try.ntmps3
    go_wp2_with fail
    refine (clock_lives_any _).mono ?_
    rintro e w1 ⟨rfl, hb⟩
    go_wp2
    go_ret
    exact ⟨rfl, hb⟩
  have hi2 : ¬ (100 : Int) < (ys.length : Int) := by omega
  have HLL := Lib.hid (show zs.length ≤ 100 ∧ ys.length ≤ 100 by omega)
  have HA := Lib.hid hA'
  have HB := Lib.hid hB'
  obtain ⟨r1, hr1⟩ : ∃ r, atZ zs x = r := ⟨_, rfl⟩
  obtain ⟨L1, hL1⟩ : ∃ L, shortL (numL zs) = L := ⟨_, rfl⟩
  obtain ⟨L2, hL2⟩ : ∃ L, shortL (tickN (numL zs) x) = L := ⟨_, rfl⟩
  obtain ⟨L3, hL3⟩ : ∃ L, shortL (joinN (numL zs) (numL ys)) = L := ⟨_, rfl⟩
  obtain ⟨r2, hr2⟩ : ∃ r, cmpN (numL zs) (numL ys) = r := ⟨_, rfl⟩
  have R1 := Lib.hid hr1
  have R2 := Lib.hid hr2
  have H1 := Lib.hid hL1
  have H2 := Lib.hid hL2
  have H3 := Lib.hid hL3
  have N1 : Hid (L1.length ≤ 100) := by rw [Hid, ← hL1]; exact Nat.le_trans (shortL_le _) (by omega)
  have N2 : Hid (L2.length ≤ 100) := by rw [Hid, ← hL2]; exact Nat.le_trans (shortL_le _) (by omega)
  have N3 : Hid (L3.length ≤ 100) := by rw [Hid, ← hL3]; exact Nat.le_trans (shortL_le _) (by omega)
  clear h1 h2 hA' hB' hr1 hr2 hL1 hL2 hL3
  go_enter Try.func3, Try.ntmps3
  go_wp2_with fail
  refine (clock_lives_any _).mono ?_
  rintro e w1 ⟨rfl, hb⟩
  have HBW := Lib.hid hb
  have HA1 := Lib.hid (HA.out.later hb)
  have HB1 := Lib.hid (HB.out.later hb)
  clear hb HA HB
  go_wp2_with fail
  refine Calls.mono (At_is rfl R1.out HA1.out (by have := HLL.out; omega)) ?_
  rintro e w' ⟨rfl, rfl⟩
  go_wp2_with fail
  refine Calls.mono (refAt_is R1.out HA1.out) ?_
  rintro e w' ⟨rfl, rfl⟩
  go_wp2_with fail
  refine Calls.mono (Short_is rfl H1.out rfl HA1.out (by have := HLL.out; omega)) ?_
  rintro e w2 ⟨A2, c2, rfl, hr, hb⟩
  have HBW2 := Lib.hid (Below.next HBW.out hb)
  have HA := Lib.hid (HA1.out.later hb)
  have HB := Lib.hid (HB1.out.later hb)
  have HR := Lib.hid (show RdI w2 A2 L1 from hr)
  clear hb hr HA1 HB1 HBW
  go_wp2_with fail
  refine Calls.mono (refShort_is H1.out rfl HA.out) ?_
  rintro e w3 ⟨A3, c3, rfl, hr, hb⟩
  have HBW := Lib.hid (Below.next HBW2.out hb)
  have HA1 := Lib.hid (HA.out.later hb)
  have HB1 := Lib.hid (HB.out.later hb)
  have HR2 := Lib.hid (HR.out.later hb)
  have HR3 := Lib.hid (show RdI w3 A3 L1 from hr)
  clear hb hr HA HB HR HBW2
  go_wp2_with fail
  refine Calls.mono (SameI_is rfl HR2.out HR3.out (by have := N1.out; omega)) ?_
  rintro e w4 ⟨rfl, hb⟩
  have HBW2 := Lib.hid (Below.next HBW.out hb)
  have HA := Lib.hid (HA1.out.later hb)
  have HB := Lib.hid (HB1.out.later hb)
  clear hb HA1 HB1 HR2 HR3 HBW
  go_wp2_with fail
  refine Calls.mono (Tick_is rfl H2.out rfl HA.out (by have := HLL.out; omega)) ?_
  rintro e w5 ⟨A5, c5, rfl, hr, hb⟩
  have HBW := Lib.hid (Below.next HBW2.out hb)
  have HA1 := Lib.hid (HA.out.later hb)
  have HB1 := Lib.hid (HB.out.later hb)
  have HR := Lib.hid (show RdI w5 A5 L2 from hr)
  clear hb hr HA HB HBW2
  go_wp2_with fail
  refine Calls.mono (refTick_is H2.out rfl HA1.out) ?_
  rintro e w6 ⟨A6, c6, rfl, hr, hb⟩
  have HBW2 := Lib.hid (Below.next HBW.out hb)
  have HA := Lib.hid (HA1.out.later hb)
  have HB := Lib.hid (HB1.out.later hb)
  have HR2 := Lib.hid (HR.out.later hb)
  have HR3 := Lib.hid (show RdI w6 A6 L2 from hr)
  clear hb hr HA1 HB1 HR HBW
  go_wp2_with fail
  refine Calls.mono (SameI_is rfl HR2.out HR3.out (by have := N2.out; omega)) ?_
  rintro e w7 ⟨rfl, hb⟩
  have HBW := Lib.hid (Below.next HBW2.out hb)
  have HA1 := Lib.hid (HA.out.later hb)
  have HB1 := Lib.hid (HB.out.later hb)
  clear hb HA HB HR2 HR3 HBW2
  go_wp2_with fail
  refine Calls.mono (Join_is rfl rfl H3.out rfl HA1.out HB1.out (by have := HLL.out; omega)) ?_
  rintro e w8 ⟨A8, c8, rfl, hr, hb⟩
  have HBW2 := Lib.hid (Below.next HBW.out hb)
  have HA := Lib.hid (HA1.out.later hb)
  have HB := Lib.hid (HB1.out.later hb)
  have HR := Lib.hid (show RdI w8 A8 L3 from hr)
  clear hb hr HA1 HB1 HBW
  go_wp2_with fail
  refine Calls.mono (refJoin_is H3.out rfl HA.out HB.out) ?_
  rintro e w9 ⟨A9, c9, rfl, hr, hb⟩
  have HBW := Lib.hid (Below.next HBW2.out hb)
  have HA1 := Lib.hid (HA.out.later hb)
  have HB1 := Lib.hid (HB.out.later hb)
  have HR2 := Lib.hid (HR.out.later hb)
  have HR3 := Lib.hid (show RdI w9 A9 L3 from hr)
  clear hb hr HA HB HR HBW2
  go_wp2_with fail
  refine Calls.mono (SameI_is rfl HR2.out HR3.out (by have := N3.out; omega)) ?_
  rintro e w10 ⟨rfl, hb⟩
  have HBW2 := Lib.hid (Below.next HBW.out hb)
  have HA := Lib.hid (HA1.out.later hb)
  have HB := Lib.hid (HB1.out.later hb)
  clear hb HA1 HB1 HR2 HR3 HBW
  go_wp2_with fail
  refine Calls.mono (Compare_is rfl rfl R2.out HA.out HB.out (by have := HLL.out; omega)) ?_
  rintro e w11 ⟨rfl, hb⟩
  have HBW := Lib.hid (Below.next HBW2.out hb)
  have HA1 := Lib.hid (HA.out.later hb)
  have HB1 := Lib.hid (HB.out.later hb)
  clear hb HA HB HBW2
  go_wp2_with fail
  refine Calls.mono (refCompare_is R2.out HA1.out HB1.out) ?_
  rintro e w' ⟨rfl, rfl⟩
  go_wp2
  go_ret
  exact ⟨rfl, HBW.out⟩

end Go.Proofs.Ytabcnmpnjnegdaa
