/- The first question of the laws of stage 10 (begins10), walked: a table and a clock side by side. -/
import Derived.Test.YtgfcpjkihbaapaaLckTake
import Derived.Test.YtgfcpjkihbaapaaEpLook
import Derived.Test.YtgfcpjkihbaapaaEpNew
namespace Go.Proofs.Ytgfcpjkihbaapaa
open Go.RowKit

theorem isI_few {k : Int} (h : 0 ≤ k ∧ k ≤ 100000) : IsI k := by
  unfold IsI
  exact WalkArith.wf_i64 (by omega)

set_option maxRecDepth 100000 in
set_option maxHeartbeats 4000000 in
theorem begins10_any (w : World) : Calls Try.prog 58 #[] w fun e w' => e = .returned (.bool true) ∧ Below w.heap.size w w' := by
  have i0 : IsI 0 := isI_few (by decide)
  have i1 : IsI 1 := isI_few (by decide)
  go_enter Try.func58, Try.ntmps58
  go_wp2_with fail
  refine (LckNew_any w).mono ?_
  rintro e w1 ⟨B, bh, bw, rfl, hT, hb, hM⟩
  have HT := Lib.hid hT
  have HB := Lib.hid hb
  have HM := Lib.hid hM
  clear hT hb hM
  go_wp2_with fail
  refine (ENew_any 1 (by decide) (by decide) w1).mono ?_
  rintro e w2 ⟨C, cw, cm, rfl, hE, hb2, hM2⟩
  have HE := Lib.hid hE
  have HB2 := Lib.hid (Below.next HB.out hb2)
  have HM2 := Lib.hid hM2
  have H2 := Lib.hid (HT.out.later hb2)
  have hlt : ∀ b, TabM B bh bw b → b < w1.heap.size := fun b hb => HT.out.mlt hb
  have HL := Lib.hid hlt
  clear hE hb2 hM2 hlt
  have HK := Lib.hid (Take_any H2.out LFit.new (by decide) 0 1 i0 i1)
  rw [show takeX newL 0 1 = ⟨[(1, 0)], [], true⟩ by decide, show takeB newL 0 1 = true by decide] at HK
  go_wp2_with fail
  refine HK.out.mono ?_
  rintro e w3 ⟨rfl, h3, c3⟩
  have HC3 := Lib.hid c3
  have hf3 : LFit ⟨[(1, 0)], [], true⟩ := by
    have := LFit.new.take 0 1
    rw [show takeX newL 0 1 = ⟨[(1, 0)], [], true⟩ by decide] at this
    exact this
  have HK2 := Lib.hid (Take_any h3 hf3 (by decide) 1 1 i1 i1)
  rw [show takeX ⟨[(1, 0)], [], true⟩ 1 1 = ⟨[(1, 0)], [(1, 1)], true⟩ by decide, show takeB ⟨[(1, 0)], [], true⟩ 1 1 = false by decide] at HK2
  clear h3 c3 HK hf3
  go_wp2_with fail
  refine HK2.out.mono ?_
  rintro e w4 ⟨rfl, h4, c4⟩
  have hc : Chg (TabM B bh bw) w2 w4 := HC3.out.trans c4 (fun _ e => .inl e)
  have hE4 := HE.out.chg (by decide) hc (fun b hb e => by
    have h5 := HL.out b hb
    have h6 := HM2.out b e
    omega)
  have HC := Lib.hid hc
  have HLK := Lib.hid (Look_any hE4 (EFit.new (by decide) (by decide)) (by decide))
  rw [show lookB (newE 1) = true by decide] at HLK
  clear h4 c4 HK2 HC3 hc hE4
  go_wp2_with fail
  refine HLK.out.mono ?_
  rintro e w5 ⟨rfl, lv', _, c5, _⟩
  have hb4 : Below w.heap.size w w4 := HB2.out.trans (HC.out.below HM.out HB2.out.size)
  have HBF := Lib.hid (hb4.trans (c5.below (fun b e => by have := HM2.out b e; have := HB.out.size; omega) hb4.size))
  clear c5 HLK hb4
  go_wp2
  go_ret
  exact ⟨rfl, HBF.out⟩

end Go.Proofs.Ytgfcpjkihbaapaa
