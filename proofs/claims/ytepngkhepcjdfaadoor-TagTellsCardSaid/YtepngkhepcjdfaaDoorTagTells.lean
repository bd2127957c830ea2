/- TagTells: the law's own walk. -/
import Derived.Test.YtepngkhepcjdfaaDoorTagLives
import Derived.Test.YtepngkhepcjdfaaDoorTagParseR
namespace Go.Proofs.YtepngkhepcjdfaaDoor
open Go.RowKit

section
variable {A : Option Addr} {zs : List ByteArray} {c : Nat} {W : World}
theorem Tb.lens (h : Tb A zs c W) : zs.length ≤ 9223372036854775807 := Nat.le_trans h.room h.most
theorem refText_t (h : Tb A zs c W) (hz : ∀ z ∈ zs, z.size ≤ 9223372036854775807) (x : Int) (h0 : 0 ≤ x) (h1 : x ≤ 18446744073709551615) : Calls Tryd.prog 10 #[.slice A zs.length c, .int .u64 x] W (TextOut (txtB zs x) (nmsW zs x) W) :=
  refText_any A zs c x W h.rd h.lens hz h0 h1
theorem refNames_t (h : Tb A zs c W) (hz : ∀ z ∈ zs, z.size ≤ 9223372036854775807) (x : Int) (h0 : 0 ≤ x) (h1 : x ≤ 18446744073709551615) : Calls Tryd.prog 8 #[.slice A zs.length c, .int .u64 x] W (TextsAre (nmsL zs x) (nmsW zs x) W) :=
  refNames_any A zs c x W h.rd h.lens hz h0 h1
theorem refParse_t (h : Tb A zs c W) (hz : ∀ z ∈ zs, z.size ≤ 9223372036854775807) (s : ByteArray) (hs : s.size ≤ 100000) : Calls Tryd.prog 12 #[.slice A zs.length c, .string s] W (MaskOut (prsM zs s) (prsW zs s) W) :=
  refParse_any A zs c s W h.rd h.lens hz hs
end

set_option maxRecDepth 100000 in
set_option maxHeartbeats 4000000 in
theorem TagTells_walk (A : Option Addr) (zs : List ByteArray) (c : Nat) (x tags : Int) (s : ByteArray) (w : World) (h : Tb A zs c w) (hz : ∀ z ∈ zs, z.size ≤ 9223372036854775807) (h0 : 0 ≤ x) (h1 : x ≤ 18446744073709551615) :
    Calls Tryd.prog 3 #[.slice A zs.length c, .int .u64 x, .int .u64 tags, .string s] w fun e w' => e = .returned (.bool true) ∧ Below w.heap.size w w' := by
  have HL := Lib.hid (fun W (hT : Tab W) => tag_lives_any W hT)
  have HZ := Lib.hid hz
  clear hz
  by_cases h80 : 80 < zs.length
  · go_enter Tryd.func3, Tryd.ntmps3
    go_wp2_with fail
    refine Calls.mono (HL.out _ h.tab) ?_
    rintro e w1 ⟨rfl, hb⟩
    go_wp2
    go_ret
    exact ⟨rfl, hb⟩
  by_cases h3000 : 3000 < s.size
  · go_enter Tryd.func3, Tryd.ntmps3
    go_wp2_with fail
    refine Calls.mono (HL.out _ h.tab) ?_
    rintro e w1 ⟨rfl, hb⟩
    go_wp2
    go_ret
    exact ⟨rfl, hb⟩
  go_enter Tryd.func3, Tryd.ntmps3
  go_wp2_with fail
  refine Calls.mono (Names_t h x h0 h1) ?_
  rintro e w1 ⟨A1, c1, rfl, r1, k1, m1, hb⟩
  have t1 := h.below hb
  have B1 : Below w.heap.size w w1 := hb
  clear hb
  go_wp2_with fail
  refine Calls.mono (refNames_t t1 HZ.out x h0 h1) ?_
  rintro e w2 ⟨A2, c2, rfl, r2, k2, m2, hb⟩
  have t2 := t1.below hb
  have B2 := Below.next B1 hb
  have q1 := (r1.below hb).more hb.size
  clear hb t1 B1 r1
  go_wp2_with fail
  refine Calls.mono (Text_t t2 x h0 h1) ?_
  rintro e w3 ⟨rfl, hb⟩
  have t3 := t2.below hb
  have B3 := Below.next B2 hb
  have p1 := (q1.below hb).more hb.size
  have p2 := (r2.below hb).more hb.size
  clear hb t2 B2 q1 r2
  go_wp2_with fail
  refine Calls.mono (refText_t t3 HZ.out x h0 h1) ?_
  rintro e w4 ⟨rfl, hb⟩
  have t4 := t3.below hb
  have B4 := Below.next B3 hb
  have q1 := (p1.below hb).more hb.size
  have q2 := (p2.below hb).more hb.size
  clear hb t3 B3 p1 p2
  go_wp2_with fail
  refine Calls.mono (Parse_t t4 s (by omega)) ?_
  rintro e w5 ⟨rfl, hb⟩
  have t5 := t4.below hb
  have B5 := Below.next B4 hb
  have p1 := (q1.below hb).more hb.size
  have p2 := (q2.below hb).more hb.size
  clear hb t4 B4 q1 q2
  go_wp2_with fail
  refine Calls.mono (refParse_t t5 HZ.out s (by omega)) ?_
  rintro e w6 ⟨rfl, hb⟩
  have t6 := t5.below hb
  have B6 := Below.next B5 hb
  have q1 := (p1.below hb).more hb.size
  have q2 := (p2.below hb).more hb.size
  clear hb t5 B5 p1 p2
  generalize prsM zs s = pm
  generalize prsW zs s = pw
  generalize nmsW zs x = nw
  generalize txtB zs x = tx
  generalize nmsL zs x = NL at *
  go_wp2_with fail
  refine Calls.mono (HL.out _ t6.tab) ?_
  rintro e w7 ⟨rfl, hb⟩
  have t7 := t6.below hb
  have B7 := Below.next B6 hb
  have p1 := (q1.below hb).more hb.size
  have p2 := (q2.below hb).more hb.size
  clear hb t6 B6 q1 q2
  go_wp2_with fail
  refine Calls.mono (Check_any A zs c _ t7.rd t7.room t7.most) ?_
  rintro e w8 ⟨rfl, hb⟩
  have t8 := t7.below hb
  have B8 := Below.next B7 hb
  have q1 := (p1.below hb).more hb.size
  have q2 := (p2.below hb).more hb.size
  clear hb t7 B7 p1 p2
  go_wp2_with fail
  refine Calls.mono (refCheck_any A zs c _ t8.rd t8.lens HZ.out) ?_
  rintro e w9 ⟨rfl, rfl⟩
  generalize chkT zs = ck
  go_wp2_with fail
  refine Calls.mono (Texts_refl A1 A2 NL c1 c2 _ q1 q2 (Nat.le_trans k1 m1)) ?_
  rintro e w10 ⟨rfl, hd⟩
  have t10 := t8.below (hd.below _)
  have B10 := Below.next B8 (hd.below _)
  clear hd t8 B8 q1 q2
  go_wp2_with fail
  refine Calls.mono (tagHas_any tags x _) ?_
  rintro e w' ⟨rfl, rfl⟩
  generalize hbx : (bits .and .u64 tags x == x) = bx
  go_wp2_with fail
  refine Calls.mono (Bits_any x _ h0 h1 t10.tab) ?_
  rintro e w11 ⟨A11, c11, rfl, r11, hb⟩
  have t11 := t10.below hb
  have B11 := Below.next B10 hb
  clear hb t10 B10
  go_wp2_with fail
  refine Calls.mono (refBits_any x _ h0 h1) ?_
  rintro e w12 ⟨A12, c12, rfl, r12, hb⟩
  have B12 := Below.next B11 hb
  have r13 := (r11.below hb).more hb.size
  clear hb t11 B11 r11
  have hlb := bitsL_len x
  generalize bitsL x = BL at *
  go_wp2_with fail
  refine Calls.mono (SameInts_refl A11 A12 BL c11 c12 _ r13 r12 (by omega)) ?_
  rintro e w13 ⟨rfl, hd⟩
  have B13 := Below.next B12 (hd.below _)
  clear hd B12
  go_wp2
  go_ret
  exact ⟨rfl, B13⟩

end Go.Proofs.YtepngkhepcjdfaaDoor
