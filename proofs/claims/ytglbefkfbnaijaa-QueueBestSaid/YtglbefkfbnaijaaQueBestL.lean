/- The best (the law of 8.4), walked. -/
import Derived.Test.YtglbefkfbnaijaaQueLives
import Derived.Test.YtglbefkfbnaijaaQueUse
import Derived.Test.YtglbefkfbnaijaaRankLives
namespace Go.Proofs.Ytglbefkfbnaijaa
open Go.RowKit Go.Shelf Go.Sort

def sliceLen : Value → Nat
  | .slice _ n _ => n
  | _ => 0
theorem take_snoc {α : Type} (zs : List α) (k : Nat) (h : k < zs.length) : zs.take (k + 1) = zs.take k ++ [zs[k]] := List.take_succ_eq_append_getElem h

set_option maxRecDepth 100000 in
set_option maxHeartbeats 8000000 in
theorem QueueBest_walk (S : Option Addr) (zs : List SpotT) (cs : Nat) (most : Int) (w : World) (hS : RdS w w.heap.size S zs) (_hs1 : zs.length ≤ cs) (_hs2 : cs ≤ 9223372036854775807) (_hcS : S = none → cs = 0) :
    Calls Try.prog 4 #[.slice S zs.length cs, .int .i64 most] w fun e w' => e = .returned (.bool true) ∧ Below w.heap.size w w' := by
  by_cases hlong : 200 < zs.length
  · have h3 : (200 : Int) < (zs.length : Int) := by omega
    clear hS hlong
    go_enter Try.func4, Try.ntmps4
    go_wp2_with fail
    refine (que_lives_any _).mono ?_
    rintro e w1 ⟨rfl, hb⟩
    go_wp2
    go_ret
    exact ⟨rfl, hb⟩
  · have l1 : ¬ (200 : Int) < (zs.length : Int) := by omega
    have n1 : zs.length ≤ 200 := by omega
    have HS := Lib.hid hS
    have N := Lib.hid n1
    clear hS hlong n1
    obtain ⟨i0, hi0, hz0, hz1, hz2⟩ := info_parts info_spot
    go_enter Try.func4, Try.ntmps4
    go_wp2_with fail
    refine (que_lives_any _).mono ?_
    rintro e w1 ⟨rfl, hb1⟩
    have HW := Lib.hid hb1
    clear hb1
    go_wp2_with fail
    refine (qNew_any w1).mono ?_
    rintro e w2 ⟨bq, rfl, q1, q2, q3⟩
    have F1 := ((Fam.nil (P := fun k => k < w.heap.size) w (fun _ h => h)).later HW.out).newQ q1 q2 q3
    clear q1 q2 q3
    go_wp2_with fail
    refine (bNew_any most w2).mono ?_
    rintro e w3 ⟨bl, rfl, r1, r2, r3, r4⟩
    have F2 := F1.newB r1 r2 r3 r4
    clear r1 r2 r3 r4 F1
    go_wp2_with fail
    refine (bNew_any most w3).mono ?_
    rintro e w4 ⟨bn, rfl, s1, s2, s3, s4⟩
    have HF := Lib.hid (show Fam (fun k => k < w.heap.size) w w4 [⟨bq, none, []⟩, ⟨bl, some (bestN most), []⟩, ⟨bn, some (bestN most), []⟩] from F2.newB s1 s2 s3 s4)
    clear s1 s2 s3 s4 F2 HW
    generalize hm : bestN most = m at *
    have HM := Lib.hid hm
    clear hm
    have hrl : zs.reverse.length = zs.length := List.length_reverse
    have HRL := Lib.hid hrl
    clear hrl
    go_wp2
    go_loopw [35] (fun i wr => ∃ k : Nat, k ≤ zs.length ∧ i = .int .i64 k ∧ Hid (Fam (fun b => b < w.heap.size) w wr [⟨bq, none, zs.take k⟩, ⟨bl, some m, zs.take k⟩, ⟨bn, some m, zs.reverse.take k⟩])) (fun i _ => zs.length - (intOf i).toNat)
    case atStart => exact ⟨0, Nat.zero_le _, rfl, HF.out⟩
    case round =>
      clear HF
      obtain ⟨k, hk, rfl, HF⟩ := hrel
      by_cases hlt : k < zs.length
      · have hR := HS.out.below HF.out.below
        obtain ⟨b, off, rfl, hb, h0, h1, h2⟩ := hR k _ (List.getElem?_eq_getElem hlt)
        have HT : Hid (zs.take (k + 1) = zs.take k ++ [zs[k]]) := take_snoc zs k hlt
        have hj : zs.length - 1 - k < zs.length := by omega
        have HTR : Hid (zs.reverse.take (k + 1) = zs.reverse.take k ++ [zs[zs.length - 1 - k]]) := by
          rw [Hid, take_snoc zs.reverse k (by rw [HRL.out]; exact hlt), List.getElem_reverse]
        have HSB := Lib.hid HS.out
        have HRJ : Hid (∀ W, Below w.heap.size w W → SpC W b ((0, 0), 0) → True) := Lib.hid fun _ _ _ => trivial
        clear HRJ
        have hR2 := HS.out (zs.length - 1 - k) _ (List.getElem?_eq_getElem hj)
        obtain ⟨b', off', he, hb', j0, j1, j2⟩ := hR2
        injection he with he
        injection he with e1 e2
        subst e1 e2
        clear hR
        generalize zs[zs.length - 1 - k] = y at *
        generalize zs[k] = z at *
        obtain ⟨⟨za, zb⟩, zc⟩ := z
        obtain ⟨⟨ya, yb⟩, yc⟩ := y
        simp only at h0 h1 h2 j0 j1 j2
        have HJ := Lib.hid (And.intro j0 (And.intro j1 j2))
        have HB := Lib.hid hb
        clear j0 j1 j2 hb hb'
        have hkl : (k : Int) < (zs.length : Int) := by omega
        have hk0 : (0 : Int) ≤ (k : Int) := by omega
        have hkn : ((k : Int)).toNat = k := Int.toNat_natCast k
        have HD := Lib.hid (SpC.new wr za zb zc)
        have HF1 := Lib.hid (HF.out.alloc (.cells #[.int .u64 za, .int .u64 zb, .int .i64 zc] 33))
        clear HF
        go_upto_region 11 with (fail)
        generalize wr.alloc (.cells #[.int .u64 za, .int .u64 zb, .int .i64 zc] 33) = X1 at *
        generalize wr.heap.size = D at *
        clear h0 h1 h2
        obtain ⟨d0, d1, d2⟩ := HD.out
        simp only at d0 d1 d2
        go_wp2_with fail
        refine (Fam.push HF1.out (i := 0) (L := zs.take k) (b := bq) rfl ((za, zb), zc) (by have := N.out; rw [List.length_take]; omega)).mono ?_
        rintro e X2 ⟨rfl, hf, hs⟩
        have HF2 := Lib.hid hf
        have HD2 := Lib.hid (HD.out.same (hs D (.inr rfl)))
        clear hf hs d0 d1 d2 HD HF1
        obtain ⟨d0, d1, d2⟩ := HD2.out
        simp only at d0 d1 d2
        go_wp2_with fail
        refine (Fam.offer HF2.out (i := 1) (L := zs.take k) (m := m) (b := bl) rfl ((za, zb), zc) (by have := N.out; rw [List.length_take]; omega)).mono ?_
        rintro e X3 ⟨rfl, hf, hs⟩
        have HF3 := Lib.hid hf
        have HBX := Lib.hid hf.below
        clear hf hs d0 d1 d2 HD2 HF2
        have j0 := (HBX.out.cell (p := ⟨b, off + (zs.length - 1 - k) * 3, none⟩) HB.out).trans HJ.out.1
        have j1 := (HBX.out.cell (p := ⟨b, off + (zs.length - 1 - k) * 3 + 1, none⟩) HB.out).trans HJ.out.2.1
        have j2 := (HBX.out.cell (p := ⟨b, off + (zs.length - 1 - k) * 3 + 2, none⟩) HB.out).trans HJ.out.2.2
        have e4 : zs.length - 1 - k < zs.length := by omega
        clear HB HJ
        go_wp2_with fail
        refine (Fam.offer HF3.out (i := 2) (L := zs.reverse.take k) (m := m) (b := bn) rfl ((ya, yb), yc) (by have := N.out; rw [List.length_take]; have := HRL.out; omega)).mono ?_
        rintro e X4 ⟨rfl, hf, hs⟩
        have HF4 := Lib.hid (hf.less (P' := fun b => b < w.heap.size) (fun _ h => .inl h))
        clear hf hs HF3 HBX
        go_wp2
        go_roundw
        case rel => exact ⟨k + 1, by omega, by go_num, by rw [HT.out, HTR.out]; exact HF4.out⟩
        case measure => simp [intOf]; omega
      · have hke : k = zs.length := by omega
        have HFE : Hid (Fam (fun b => b < w.heap.size) w wr [⟨bq, none, (sortS zs).drop 0⟩, ⟨bl, some m, zs⟩, ⟨bn, some m, zs.reverse⟩]) := by
          have h := HF.out
          rw [hke, List.take_of_length_le (Nat.le_refl _), List.take_of_length_le (by rw [HRL.out]; exact Nat.le_refl _)] at h
          exact h.permQ (i := 0) rfl (sortS_perm zs).symm
        have hsl := sortS_len zs
        have HSL := Lib.hid hsl
        have hls := least_best zs most
        rw [HM.out] at hls
        have HLS := Lib.hid hls
        have HKR := Lib.hid (keep_rev m zs)
        have HSO := Lib.hid (Sort_any S zs cs (by have := N.out; omega))
        have HLO := Lib.hid (fun k => Least_any S zs cs k (by have := N.out; omega))
        have HDR : Hid (∀ k, spAt (sortS ((sortS zs).drop k)) 0 = spAt (sortS zs) k ∧ (sortS ((sortS zs).drop k)).tail = (sortS zs).drop (k + 1)) := Lib.hid fun k => ⟨spAt_sorted k, tail_sorted k⟩
        subst hke
        clear HF hsl hls
        generalize hZ : sortS zs = Z at *
        have HBase := Lib.hid HFE.out.below.size
        generalize hB : wr.heap.size = B at *
        have hBw : w.heap.size ≤ B := by have := HFE.out.below.size; omega
        go_wp2
        go_loopw [10] (fun v wr => ∃ (k : Nat) (P : Nat → Prop), k ≤ zs.length ∧ wr.ownsRow B 33 3 v k (cellsS (Z.take k)) ∧ (∀ q, v.ownBlock = some q → P q) ∧ B ≤ wr.heap.size ∧ Hid (Fam P w wr [⟨bq, none, Z.drop k⟩, ⟨bl, some m, zs⟩, ⟨bn, some m, zs.reverse⟩])) (fun v _ => zs.length + 1 - (sliceLen v))
        case atStart => exact ⟨0, fun b => b < w.heap.size, Nat.zero_le _, World.ownsRow_nil _ _ _ _, (fun q h => by simp [Value.ownBlock] at h), by omega, HFE.out⟩
        case round =>
          clear HFE
          obtain ⟨k, P, hk, hown, hP, hBr, HF⟩ := hrel
          have hlow : ∀ q, (u10 : Value).ownBlock = some q → w.heap.size ≤ q := fun q e => Nat.le_trans hBw (hown.lt q e).1
          obtain ⟨A1, c1, rfl, hc1, hm1⟩ := ownSlice hown
          have hkl : (k : Int) ≤ (zs.length : Int) := by omega
          have N2 := N.out
          by_cases hlt : k < zs.length
          · obtain ⟨⟨⟨xa, xb⟩, xc⟩, hx⟩ : ∃ x, spAt Z k = x := ⟨_, rfl⟩
            have HT : Hid (cellsS (Z.take (k + 1)) = cellsS (Z.take k) ++ [.int .u64 xa, .int .u64 xb, .int .i64 xc]) := by
              have hkz : k < Z.length := by have := HSL.out; omega
              rw [Hid, take_snoc Z k hkz, cellsS_snoc, ← spAt_get hkz, hx]
              rfl
            have HX := Lib.hid ((HDR.out k).1.trans hx)
            have HTL := Lib.hid (HDR.out k).2
            have hdl : (Z.drop k).length = zs.length - k := by have := HSL.out; rw [List.length_drop]; omega
            have HDL := Lib.hid hdl
            have HOW := Lib.hid hown
            clear hx hdl hown
            go_wp2_with fail
            refine (Fam.pop HF.out (i := 0) (b := bq) (L := Z.drop k) rfl (by rw [HDL.out]; omega) HX.out).mono ?_
            rintro e W1 ⟨rfl, hf, hs⟩
            rw [HTL.out] at hf
            have HF1 := Lib.hid (Fam.alloc hf (.cells #[.int .u64 xa, .int .u64 xb, .int .i64 xc] 33))
            have HO1 := Lib.hid ((own_kept HOW.out (fun q e => hs q (hP q e))).alloc (.cells #[.int .u64 xa, .int .u64 xb, .int .i64 xc] 33))
            have HC := Lib.hid (SpC.new W1 xa xb xc)
            have hpos : decide (0 < (Z.drop k).length) = true := decide_eq_true (by rw [HDL.out]; omega)
            rw [hpos]
            have HSZ : Hid (B ≤ (W1.alloc (.cells #[.int .u64 xa, .int .u64 xb, .int .i64 xc] 33)).heap.size) := by have := hs.size; rw [Hid]; simp; omega
            clear hf hs HF HOW hpos HX HTL
            go_upto_region 19 with (fail)
            generalize W1.alloc (.cells #[.int .u64 xa, .int .u64 xb, .int .i64 xc] 33) = X1 at *
            generalize W1.heap.size = D at *
            obtain ⟨d0, d1, d2⟩ := HC.out
            simp only at d0 d1 d2
            have hBX : B ≤ X1.heap.size := HSZ.out
            go_wp2_with (at_builtin; refine wpList_append_lies _ rfl _ _ 28 rfl B 33 i0 _ 3 24 Try.underlying28 hi0 hz0 hz1 hz2 rfl (by decide) _ k (cellsS (Z.take k)) rfl (HO1.out.alloc _) ⟨X1.heap.size, 0, none⟩ 1 1 [.int .u64 xa, .int .u64 xb, .int .i64 xc] rfl rfl (World.news_of_block (cs := #[.int .u64 xa, .int .u64 xb, .int .i64 xc]) (t := 33) (fr := (0, 0)) (heap_alloc_new X1 _)) (by simp [Value.oneCell']) (by decide) (by unfold maxLen; omega) (by omega) (by simp; omega) (X1.heap.size + 1) (by simp) ?_; intro g cap W3 hown3 hgrow hat hlt3)
            have HF3 := Lib.hid (Fam.grown (HF1.out.alloc (.cells #[.int .u64 xa, .int .u64 xb, .int .i64 xc] 33)) hgrow (fun q e => ⟨.inl (.inl (hP q e)), hlow q e⟩))
            have HP3 : Hid (∀ q, (Value.slice (some ⟨g, 0, none⟩) (k + 1) cap).ownBlock = some q → ((P q ∨ q = D) ∨ q = X1.heap.size) ∨ ((X1.alloc (.cells #[.int .u64 xa, .int .u64 xb, .int .i64 xc] 33)).heap.size ≤ q ∧ q < W3.heap.size)) := Lib.hid fun q e => by
              have e : g = q := by simpa [Value.ownBlock] using e
              subst e
              rcases hat with e | e
              · exact .inl (.inl (.inl (hP g e)))
              · exact .inr ⟨by rw [e]; simp, hlt3⟩
            rw [← HT.out] at hown3
            have hB3 : B ≤ W3.heap.size := by have := hgrow.size; simp at this; omega
            clear hgrow hat hlt3 HF1 HO1 HC d0 d1 d2 hP hlow
            go_wp2
            go_roundw
            case rel => exact ⟨k + 1, _, by omega, hown3, HP3.out, hB3, HF3.out⟩
            case measure => simp [sliceLen]; omega
          · obtain rfl : k = Z.length := by have := HSL.out; omega
            have hd0 : Z.drop Z.length = [] := List.drop_eq_nil_of_le (Nat.le_refl _)
            have HX : Hid (spAt (sortS (Z.drop Z.length)) 0 = ((0, 0), 0)) := by rw [Hid, hd0, sortS_nil]; rfl
            have HTL : Hid ((sortS (Z.drop Z.length)).tail = []) := by rw [Hid, hd0, sortS_nil]; rfl
            have hpos : decide (0 < (Z.drop Z.length).length) = false := decide_eq_false (by rw [hd0]; simp)
            have hdl : (Z.drop Z.length).length ≤ 100000 := by rw [hd0]; simp
            rw [List.take_length] at hown
            have HOW := Lib.hid hown
            clear hown hd0
            go_wp2_with fail
            refine (Fam.pop HF.out (i := 0) (b := bq) (L := Z.drop Z.length) rfl hdl HX.out).mono ?_
            rintro e W1 ⟨rfl, hf, hs⟩
            rw [HTL.out] at hf
            rw [hpos]
            have HF1 := Lib.hid (Fam.alloc hf (.cells #[.int .u64 0, .int .u64 0, .int .i64 0] 33))
            have HR1 := Lib.hid (rdS_own ((own_kept HOW.out (fun q e => hs q (hP q e))).alloc (.cells #[.int .u64 0, .int .u64 0, .int .i64 0] 33)))
            have HB1 := Lib.hid HF1.out.below
            clear hf hs HF HOW hpos HX HTL hP hlow
            go_upto_region 20 with (fail)
            generalize W1.alloc (.cells #[.int .u64 0, .int .u64 0, .int .i64 0] 33) = X1 at *
            generalize W1.heap.size = D at *
            go_wp2_with fail
            refine (HSO.out X1 ((HS.out.below HB1.out).more HB1.out.size)).mono ?_
            rintro e X2 ⟨A2, c2, rfl, hr2, hc2, hm2, hb2⟩
            have HR2 := Lib.hid hr2
            have HR1b := Lib.hid (rdS_later HR1.out hb2)
            have HF2 := Lib.hid (HF1.out.later hb2)
            clear hr2 hc2 hm2 hb2 HR1 HF1 HB1
            go_wp2_with fail
            refine (SameS_refl A1 A2 Z c1 c2 _ HR1b.out HR2.out (by have := HSL.out; omega)).mono ?_
            rintro e X3 ⟨rfl, hd⟩
            have HF3 := Lib.hid (HF2.out.later (hd.below _))
            clear hd HF2 HR1b HR2
            go_wp2_with fail
            refine (Fam.list HF3.out (i := 1) (b := bl) (m := m) (L := zs) rfl (by omega)).mono ?_
            have hkl1 : (keepS m zs).length ≤ 200 := by rw [keepS_len]; omega
            generalize hK : keepS m zs = K at *
            have HK := Lib.hid hK
            clear hK
            rintro e X4 ⟨A4, c4, rfl, hr4, hc4, hm4, hb4⟩
            have HR4 := Lib.hid hr4
            have HF4 := Lib.hid (HF3.out.later hb4)
            have HB4 := Lib.hid HF4.out.below
            clear hr4 hc4 hm4 hb4 HF3
            go_wp2_with fail
            refine (HLO.out (min most 4096) X4 ((HS.out.below HB4.out).more HB4.out.size)).mono ?_
            rw [HLS.out]
            rintro e X5 ⟨A5, c5, rfl, hr5, hc5, hm5, hb5⟩
            have HR5 := Lib.hid hr5
            have HR4b := Lib.hid (rdS_later HR4.out hb5)
            have HF5 := Lib.hid (HF4.out.later hb5)
            clear hr5 hc5 hm5 hb5 HF4 HR4 HB4
            go_wp2_with fail
            refine (SameS_refl A4 A5 K c4 c5 _ HR4b.out HR5.out (by omega)).mono ?_
            rintro e X6 ⟨rfl, hd⟩
            have HF6 := Lib.hid (HF5.out.later (hd.below _))
            clear hd HF5 HR4b HR5
            have HL3 := Lib.hid (Fam.list HF6.out (i := 2) (b := bn) (m := m) (L := zs.reverse) rfl (by rw [HRL.out]; omega))
            rw [HKR.out] at HL3
            go_wp2_with fail
            refine HL3.out.mono ?_
            rintro e X7 ⟨A7, c7, rfl, hr7, hc7, hm7, hb7⟩
            have HR7 := Lib.hid hr7
            have HF7 := Lib.hid (HF6.out.later hb7)
            clear hr7 hc7 hm7 hb7 HF6 HL3
            have HL8 := Lib.hid (Fam.list HF7.out (i := 1) (b := bl) (m := m) (L := zs) rfl (by omega))
            rw [HK.out] at HL8
            go_wp2_with fail
            refine HL8.out.mono ?_
            rintro e X8 ⟨A8, c8, rfl, hr8, hc8, hm8, hb8⟩
            have HR8 := Lib.hid hr8
            have HR7b := Lib.hid (rdS_later HR7.out hb8)
            have HF8 := Lib.hid (HF7.out.later hb8)
            clear hr8 hc8 hm8 hb8 HF7 HR7 HL8
            go_wp2_with fail
            refine (SameS_refl A7 A8 K c7 c8 _ HR7b.out HR8.out (by omega)).mono ?_
            rintro e X9 ⟨rfl, hd⟩
            have HF9 := Lib.hid (HF8.out.later (hd.below _))
            clear hd HF8 HR7b HR8
            go_wp2_with fail
            refine (Fam.len HF9.out (i := 0) (b := bq) (L := []) rfl).mono ?_
            rintro e X10 ⟨rfl, rfl⟩
            go_wp2
            go_ret
            exact ⟨rfl, HF9.out.below⟩

end Go.Proofs.Ytglbefkfbnaijaa
