/- The law BitsetTells: its walk. -/
import Derived.Test.YtkfbgadcfinlfaaDoorRefBits4
namespace Go.Proofs.YtkfbgadcfinlfaaDoor
open Go.RowKit

/-- What Next answered is what the plain Next answers. -/
theorem next_pin {zs : List Int} {n : Int} {w : World} {e : Ending} {w' : World} (h : NextOut zs n w e w') :
    w = w' ∧ ∃ (m : Int) (b : Bool), e = .returned (.tuple #[.int .i64 m, .bool b]) ∧ ∀ w2 e2 w2', RefNextOut zs n w2 e2 w2' → e2 = .returned (.tuple #[.int .i64 m, .bool b]) := by
  obtain ⟨rfl, ⟨m, rfl, h1, h2, h3⟩ | ⟨rfl, h3⟩⟩ := h
  · refine ⟨rfl, m, true, rfl, fun w2 e2 w2' h' => ?_⟩
    rcases h'.2 with ⟨k, rfl, k1, k2, k3⟩ | ⟨_, k3⟩
    · have e : k = m := by
        rcases Int.lt_trichotomy k m with c | c | c
        · rw [h3 k k2 c] at k1; cases k1
        · exact c
        · rw [k3 m h2 c] at h1; cases h1
      rw [e]
    · rw [k3 m h2] at h1; cases h1
  · refine ⟨rfl, 0, false, rfl, fun w2 e2 w2' h' => ?_⟩
    rcases h'.2 with ⟨k, _, k1, k2, _⟩ | ⟨he, _⟩
    · rw [h3 k k2] at k1; cases k1
    · exact he

set_option maxRecDepth 100000 in
set_option maxHeartbeats 8000000 in
theorem Tells_walk (A B C : Option Addr) (xs ys ls : List Int) (ca cb cl : Nat) (w : World) (hA : SetAt w A xs ca) (hB : SetAt w B ys cb) (hC : Rd (Value.int .i64) w w.heap.size C ls)
    (hr : ∀ z ∈ ls, z ≤ 9223372036854775807) (hT : Tab w) :
    Calls Tryd.prog 3 #[.slice A xs.length ca, .slice B ys.length cb, .slice C ls.length cl] w fun e w' => e = .returned (.bool true) ∧ Below w.heap.size w w' := by
  by_cases hb1 : 80 < xs.length
  · have hb : (80 : Int) < (xs.length : Int) := by omega
    clear hb1 hA hB hC hr
    have hlv := Lib.hid (lives_any w hT)
    go_enter Tryd.func3, Tryd.ntmps3
    go_wp2_with fail
    refine hlv.out.mono ?_
    rintro e w1 ⟨rfl, hb⟩
    go_wp2
    go_ret
    exact ⟨rfl, hb⟩
  · have hs1 : (xs.length : Int) ≤ 80 := by omega
    clear hb1
    by_cases hb2 : 80 < ys.length
    · have hb : (80 : Int) < (ys.length : Int) := by omega
      clear hb2 hA hB hC hr
      have hlv := Lib.hid (lives_any w hT)
      go_enter Tryd.func3, Tryd.ntmps3
      go_wp2_with fail
      refine hlv.out.mono ?_
      rintro e w1 ⟨rfl, hb⟩
      go_wp2
      go_ret
      exact ⟨rfl, hb⟩
    · have hs2 : (ys.length : Int) ≤ 80 := by omega
      clear hb2
      by_cases hb3 : 200 < ls.length
      · have hb : (200 : Int) < (ls.length : Int) := by omega
        clear hb3 hA hB hC hr
        have hlv := Lib.hid (lives_any w hT)
        go_enter Tryd.func3, Tryd.ntmps3
        go_wp2_with fail
        refine hlv.out.mono ?_
        rintro e w1 ⟨rfl, hb⟩
        go_wp2
        go_ret
        exact ⟨rfl, hb⟩
      · have hs3 : (ls.length : Int) ≤ 200 := by omega
        clear hb3
        have HT := Lib.hid hT
        have HX := Lib.hid hA.words
        have HY := Lib.hid hB.words
        have HR := Lib.hid hr
        clear hT hr
        go_enter Tryd.func3, Tryd.ntmps3
        go_wp2
        go_loopw [29] (fun i wr => ∃ k : Nat, k ≤ ls.length ∧ i = .int .i64 k ∧ Below w.heap.size w wr) (fun i _ => ls.length - (intOf i).toNat)
        case atStart => exact ⟨0, Nat.zero_le _, rfl, Below.refl _ _⟩
        case round =>
          obtain ⟨k, hk, rfl, hbel⟩ := hrel
          have hA1 := hA.below hbel
          by_cases hlt : k < ls.length
          · obtain ⟨b, off, rfl, hb, hcell⟩ := (hC.below hbel).at_ hlt
            have hkl : (k : Int) < (ls.length : Int) := by omega
            have hz := HR.out _ (List.getElem_mem hlt)
            generalize ls[k] = z at hcell hz
            have h1 := Lib.hid (Next_any A xs ca z wr hA1.rd HX.out hA1.cap hA1.top (HT.out.below hbel) hz)
            have h2 := Lib.hid (RefNext_any A xs ca z wr hA1.rd HX.out)
            go_wp2_with fail
            refine h1.out.mono ?_
            intro e w1 hn
            obtain ⟨rfl, m, q, rfl, hpin⟩ := next_pin hn
            have HPin := Lib.hid hpin
            clear hn hpin h1
            go_wp2_with fail
            refine h2.out.mono ?_
            intro e w2 hn
            have hbel2 := Below.next hbel hn.1
            obtain rfl := HPin.out _ _ _ hn
            clear hn h2 HPin
            have hA2 := hA.below hbel2
            have h3 := Lib.hid (Has_any A xs ca z w2 hA2.rd HX.out)
            have h4 := Lib.hid (RefHas_any A xs xs.length ca z w2 rfl hA2.rd HX.out)
            generalize hasB xs z = hq at h3 h4
            go_wp2_with fail
            refine h3.out.mono ?_
            rintro e w3 ⟨rfl, rfl⟩
            go_wp2_with fail
            refine h4.out.mono ?_
            rintro e w3 ⟨rfl, rfl⟩
            clear h3 h4
            cases hq <;> cases q
            all_goals
              go_wp2
              go_roundw
              case rel => exact ⟨k + 1, by omega, by go_num, hbel2⟩
              case measure => simp [intOf]; omega
          · have hB1 := hB.below hbel
            have hC1 := (hC.below hbel).more hbel.size
            have hT1 := HT.out.below hbel
            clear hA hB hC HR
            have hlv := Lib.hid (lives_any wr hT1)
            go_wp2_with fail
            refine hlv.out.mono ?_
            rintro e w1 ⟨rfl, hb⟩
            have hA2 := hA1.below hb
            have hB2 := hB1.below hb
            have hC2 := (hC1.below hb).more hb.size
            have hW2 := hbel.trans (hb.mono hbel.size)
            clear hb hA1 hB1 hC1 hlv hT1
            go_wp2_with fail
            refine Calls.mono (Of_any C ls cl _ hC2 (by omega)) ?_
            rintro e w2 ⟨oA, oc, rfl, hro, _, _, hb⟩
            have hA3 := hA2.below hb
            have hB3 := hB2.below hb
            have hC3 := (hC2.below hb).more hb.size
            have hW3 := hW2.trans (hb.mono hW2.size)
            clear hb hA2 hB2 hC2 hW2
            go_wp2_with fail
            refine Calls.mono (RefOf_any C ls ls.length cl _ rfl hC3 (by omega)) ?_
            rintro e w3 ⟨pA, pc, rfl, hrp, _, _, hb⟩
            have hA4 := hA3.below hb
            have hB4 := hB3.below hb
            have ho4 := (hro.below hb).more hb.size
            have hW4 := hW3.trans (hb.mono hW3.size)
            clear hb hA3 hB3 hC3 hW3 hro
            have hol := ofL_len ls
            go_wp2_with fail
            refine Calls.mono (Same_refl oA pA _ _ _ _ ho4 hrp (by omega)) ?_
            rintro e w4 ⟨rfl, hd⟩
            have hb := hd.below w3.heap.size
            have hA5 := hA4.below hb
            have hB5 := hB4.below hb
            have hW5 := hW4.trans (hb.mono hW4.size)
            clear hb hA4 hB4 hW4 hd ho4 hrp hol
            go_wp2_with fail
            refine Calls.mono (List_any A xs ca _ hA5.rd HX.out hA5.cap hA5.top (HT.out.below hW5)) ?_
            rintro e w5 ⟨L, LA, lc, rfl, hrl, hnl, hb⟩
            have hA6 := hA5.below hb
            have hB6 := hB5.below hb
            have hW6 := hW5.trans (hb.mono hW5.size)
            have hLn := hnl.len
            clear hb hA5 hB5 hW5
            go_wp2_with fail
            refine Calls.mono (RefList_any A xs ca _ hA6.rd HX.out) ?_
            rintro e w6 ⟨M, MA, mc, rfl, hown, hnm, hb⟩
            obtain rfl := hnm.uniq hnl
            have hrm : Rd (Value.int .i64) w6 w6.heap.size MA M := Rd.of_own hown
            have hA7 := hA6.below hb
            have hB7 := hB6.below hb
            have hl7 := (hrl.below hb).more hb.size
            have hW7 := hW6.trans (hb.mono hW6.size)
            clear hb hA6 hB6 hW6 hown hrl hnm
            have HN := Lib.hid hnl
            clear hnl
            go_wp2_with fail
            refine Calls.mono (SameInts_refl LA MA M _ _ _ hl7 hrm (by omega)) ?_
            rintro e w7 ⟨rfl, hd⟩
            have hb := hd.below w6.heap.size
            have hA8 := hA7.below hb
            have hB8 := hB7.below hb
            have hW8 := hW7.trans (hb.mono hW7.size)
            clear hb hA7 hB7 hW7 hd hl7 hrm hLn
            have hce := nums_count xs M HX.out HN.out
            go_wp2_with fail
            refine Calls.mono (Count_any A xs ca _ hA8.rd HX.out hA8.cap hA8.top) ?_
            rintro e w' ⟨rfl, rfl⟩
            rw [← hce]
            clear hce
            go_wp2_with fail
            refine Calls.mono (RefList_any A xs ca _ hA8.rd HX.out) ?_
            rintro e w8 ⟨M', MA', mc', rfl, _, hnm, hb⟩
            obtain rfl := hnm.uniq HN.out
            have hA9 := hA8.below hb
            have hB9 := hB8.below hb
            have hW9 := hW8.trans (hb.mono hW8.size)
            clear hb hA8 hB8 hW8 hnm
            go_wp2_with fail
            refine Calls.mono (Union_any A B xs ys ca cb _ hA9.rd hB9.rd HX.out HY.out hA9.cap hA9.top hB9.cap hB9.top) ?_
            rintro e w9 ⟨uUnion, ucUnion, rfl, hu, _, _, hb⟩
            have hA10 := hA9.below hb
            have hB10 := hB9.below hb
            have hW10 := hW9.trans (hb.mono hW9.size)
            clear hb hA9 hB9 hW9
            go_wp2_with fail
            refine Calls.mono (RefUnion_any A B xs ys ca cb _ hA10.rd hB10.rd HX.out HY.out) ?_
            rintro e w10 ⟨vUnion, vcUnion, rfl, hv, _, _, hb⟩
            have hA11 := hA10.below hb
            have hB11 := hB10.below hb
            have hu' := (hu.below hb).more hb.size
            have hW11 := hW10.trans (hb.mono hW10.size)
            clear hb hA10 hB10 hW10 hu
            go_wp2_with fail
            refine Calls.mono (Same_refl uUnion vUnion _ _ _ _ hu' hv (trim_small orF xs ys)) ?_
            rintro e w11 ⟨rfl, hd⟩
            have hb := hd.below w10.heap.size
            have hA12 := hA11.below hb
            have hB12 := hB11.below hb
            have hW12 := hW11.trans (hb.mono hW11.size)
            clear hb hA11 hB11 hW11 hd hu' hv
            go_wp2_with fail
            refine Calls.mono (Meet_any A B xs ys ca cb _ hA12.rd hB12.rd HX.out HY.out hA12.cap hA12.top hB12.cap hB12.top) ?_
            rintro e w12 ⟨uMeet, ucMeet, rfl, hu, _, _, hb⟩
            have hA13 := hA12.below hb
            have hB13 := hB12.below hb
            have hW13 := hW12.trans (hb.mono hW12.size)
            clear hb hA12 hB12 hW12
            go_wp2_with fail
            refine Calls.mono (RefMeet_any A B xs ys ca cb _ hA13.rd hB13.rd HX.out HY.out) ?_
            rintro e w13 ⟨vMeet, vcMeet, rfl, hv, _, _, hb⟩
            have hA14 := hA13.below hb
            have hB14 := hB13.below hb
            have hu' := (hu.below hb).more hb.size
            have hW14 := hW13.trans (hb.mono hW13.size)
            clear hb hA13 hB13 hW13 hu
            go_wp2_with fail
            refine Calls.mono (Same_refl uMeet vMeet _ _ _ _ hu' hv (trim_small andF xs ys)) ?_
            rintro e w14 ⟨rfl, hd⟩
            have hb := hd.below w13.heap.size
            have hA15 := hA14.below hb
            have hB15 := hB14.below hb
            have hW15 := hW14.trans (hb.mono hW14.size)
            clear hb hA14 hB14 hW14 hd hu' hv
            go_wp2_with fail
            refine Calls.mono (Less_any A B xs ys ca cb _ hA15.rd hB15.rd HX.out HY.out hA15.cap hA15.top hB15.cap hB15.top) ?_
            rintro e w15 ⟨uLess, ucLess, rfl, hu, _, _, hb⟩
            have hA16 := hA15.below hb
            have hB16 := hB15.below hb
            have hW16 := hW15.trans (hb.mono hW15.size)
            clear hb hA15 hB15 hW15
            go_wp2_with fail
            refine Calls.mono (RefLess_any A B xs ys ca cb _ hA16.rd hB16.rd HX.out HY.out) ?_
            rintro e w16 ⟨vLess, vcLess, rfl, hv, _, _, hb⟩
            have hA17 := hA16.below hb
            have hB17 := hB16.below hb
            have hu' := (hu.below hb).more hb.size
            have hW17 := hW16.trans (hb.mono hW16.size)
            clear hb hA16 hB16 hW16 hu
            go_wp2_with fail
            refine Calls.mono (Same_refl uLess vLess _ _ _ _ hu' hv (trim_small andNotF xs ys)) ?_
            rintro e w17 ⟨rfl, hd⟩
            have hb := hd.below w16.heap.size
            have hA18 := hA17.below hb
            have hB18 := hB17.below hb
            have hW18 := hW17.trans (hb.mono hW17.size)
            clear hb hA17 hB17 hW17 hd hu' hv
            go_wp2
            go_ret
            exact ⟨rfl, hW18⟩

end Go.Proofs.YtkfbgadcfinlfaaDoor
