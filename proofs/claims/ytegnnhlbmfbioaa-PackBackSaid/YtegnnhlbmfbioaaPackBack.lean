/- The law PackBack: its walk: whatever the word, the widths, the refs and the number, the answer is 'true' and old memory stays. -/
import Derived.Test.YtegnnhlbmfbioaaPackLives
import Derived.Test.YtegnnhlbmfbioaaBackPlain
namespace Go.Proofs.Ytegnnhlbmfbioaa
open Go.RowKit

/-- A box of two numbers. -/
def Box (w : World) (b : Nat) (x y : Int) : Prop := b < w.heap.size ∧ w.cell? ⟨b, 0, none⟩ = some (.int .i64 x) ∧ w.cell? ⟨b, 1, none⟩ = some (.int .i64 y)
theorem Box.below {w w' : World} {b : Nat} {x y : Int} (h : Box w b x y) (hb : Below w.heap.size w w') : Box w' b x y :=
  ⟨Nat.lt_of_lt_of_le h.1 hb.size, (hb.cell (p := ⟨b, 0, none⟩) h.1).trans h.2.1, (hb.cell (p := ⟨b, 1, none⟩) h.1).trans h.2.2⟩

set_option maxRecDepth 100000 in
set_option maxHeartbeats 2000000 in
theorem PackBack_walk (x : Int) (A : Option Addr) (zs : List Int) (c : Nat) (rs rg qs qg n : Int) (w : World) (h0 : 0 ≤ x) (h1 : x ≤ 18446744073709551615)
    (hA : Rd (Value.int .i64) w w.heap.size A zs) (hl : zs.length ≤ 9223372036854775807)
    (hrg0 : -9223372036854775808 ≤ rg) (hrg1 : rg ≤ 9223372036854775807) (hqg0 : -9223372036854775808 ≤ qg) (hqg1 : qg ≤ 9223372036854775807)
    (hn0 : -9223372036854775808 ≤ n) (hn1 : n ≤ 9223372036854775807) :
    Calls Try.prog 5 #[.int .u64 x, .slice A zs.length c, .agg #[.int .i64 rs, .int .i64 rg], .agg #[.int .i64 qs, .int .i64 qg], .int .i64 n] w fun e w' =>
      e = .returned (.bool true) ∧ Below w.heap.size w w' := by
  by_cases hbig : 100 < zs.length
  · go_enter Try.func5, Try.ntmps5
    go_wp2_with fail
    refine (lives_any _).mono ?_
    rintro e w1 ⟨rfl, hb⟩
    have hB1 : Below w.heap.size w w1 := Below.next (by go_grown) hb
    clear hb
    have hlen : (100 : Int) < (zs.length : Int) := by omega
    go_wp2
    go_ret
    exact ⟨rfl, hB1⟩
  · have hsm : (zs.length : Int) ≤ 100 := by omega
    clear hbig
    go_enter Try.func5, Try.ntmps5
    go_wp2_with fail
    refine (lives_any _).mono ?_
    rintro e w1 ⟨rfl, hb⟩
    have hB1 : Below w.heap.size w w1 := Below.next (by go_grown) hb
    have hA1 := (hA.below hB1).more hB1.size
    have X1 : Box w1 w.heap.size rs rg := Box.below ⟨by go_size, by go_cell, by go_cell⟩ hb
    have Y1 : Box w1 (w.heap.size + 1) qs qg := Box.below ⟨by go_size, by go_cell, by go_cell⟩ hb
    clear hb hA
    go_wp2_with fail
    refine (Fields_any x A zs c _ h0 h1 hA1 hl).mono ?_
    rintro e w2 ⟨A2, c2, rfl, hr2, hb⟩
    have hB2 := Below.next hB1 hb
    have hA2 := (hA1.below hb).more hb.size
    have X2 := Box.below X1 hb
    have Y2 := Box.below Y1 hb
    clear hb hA1 X1 Y1 hB1
    have hzz := Lib.hid (zag_zig n)
    have hzz' := Lib.hid (zig_zag x h0)
    have hzr := zig_range n hn0 hn1
    have hzr' := zag_range x h0 h1
    rcases cw_cases 64 zs with hcw | hcw
    case' inl =>
      rw [hcw]
      obtain ⟨u, hj, hu0, hu1, hfu, han, hlf, hrange⟩ := back_word x zs hcw h0 h1
      have HC := Lib.hid hcw
      have HJ := Lib.hid hj
      have HF := Lib.hid hfu
      have HR := Lib.hid hrange
      have hne : (((fldL x zs).length : Int) != (zs.length : Int)) = false := by simp [hlf]
      have hll : (fldL x zs).length ≤ 9223372036854775807 := by omega
      have han' : (bits BinOp.andNot IntKind.u64 u x != 0) = false := by simp [han]
      clear hcw hj hfu hrange hlf han
      go_wp2_with fail
      refine (Join_any A2 (fldL x zs) c2 A zs c _ hr2 hA2 hll hl HR).mono ?_
      rintro e w3 ⟨rfl, hd⟩
      rw [HJ.out]
      have hb := hd.below w2.heap.size
      have hB3 := Below.next hB2 hb
      have hA3 := (hA2.below hb).more hb.size
      have hR3 := (hr2.below hb).more hb.size
      have X3 := Box.below X2 hb
      have Y3 := Box.below Y2 hb
      clear hb hd hA2 X2 Y2 hB2 hr2
      go_wp2_with fail
      refine (Fields_any u A zs c _ hu0 hu1 hA3 hl).mono ?_
      rintro e w4 ⟨A4, c4, rfl, hr4, hb⟩
      rw [HC.out, HF.out]
      rw [HF.out] at hr4
      have hB4 := Below.next hB3 hb
      have hR4 := (hR3.below hb).more hb.size
      have X4 := Box.below X3 hb
      have Y4 := Box.below Y3 hb
      clear hb hA3 X3 Y3 hB3 hR3
      go_wp2_with fail
      refine (Same_refl A2 A4 (fldL x zs) _ _ _ hR4 hr4 hll).mono ?_
      rintro e w5 ⟨rfl, hd⟩
      have hb := hd.below w4.heap.size
      have hB5 := Below.next hB4 hb
      have X5 := Box.below X4 hb
      have Y5 := Box.below Y4 hb
      clear hb hd X4 Y4 hB4 hR4 hr4
      obtain ⟨xl, x0, x1⟩ := X5
      obtain ⟨yl, y0, y1⟩ := Y5
    case' inr =>
      rw [hcw]
      obtain ⟨xl, x0, x1⟩ := X2
      obtain ⟨yl, y0, y1⟩ := Y2
      have hB5 := hB2
      clear hr2 hA2 hB2
    all_goals
      rcases refS_cases rs rg with hr | ⟨v, hr⟩
      · have HR := Lib.hid hr
        clear hr
        go_wp2_with fail
        refine (PutRef_any rs rg _ hrg0 hrg1).mono ?_
        rintro e w6 ⟨rfl, hb⟩
        rw [HR.out]
        have hB6 := Below.next hB5 hb
        have y0' := (hb.cell (p := ⟨w.heap.size + 1, 0, none⟩) yl).trans y0
        have y1' := (hb.cell (p := ⟨w.heap.size + 1, 1, none⟩) yl).trans y1
        clear x0 x1 y0 y1 hb hB5
        go_wp2_with fail
        refine (PutRef_any qs qg _ hqg0 hqg1).mono ?_
        rintro e w7 ⟨rfl, hb⟩
        have hB7 := Below.next hB6 hb
        clear hb hB6 y0' y1'
        go_wp2_with fail
        refine (Zig_any n _ hn0 hn1).mono ?_
        rintro e w' ⟨rfl, rfl⟩
        go_wp2_with fail
        refine (Zag_any _ _ hzr.1 hzr.2).mono ?_
        rintro e w' ⟨rfl, rfl⟩
        rw [hzz.out]
        go_wp2_with fail
        refine (Zag_any x _ h0 h1).mono ?_
        rintro e w' ⟨rfl, rfl⟩
        go_wp2_with fail
        refine (Zig_any _ _ hzr'.1 hzr'.2).mono ?_
        rintro e w' ⟨rfl, rfl⟩
        rw [hzz'.out]
        go_wp2
        go_ret
        exact ⟨rfl, hB7⟩
      · obtain ⟨hv0, hv1, hrd⟩ := back_ref rs rg v hr
        have HR := Lib.hid hr
        have HD := Lib.hid hrd
        clear hrd
        go_wp2_with fail
        refine (PutRef_any rs rg _ hrg0 hrg1).mono ?_
        rintro e w6 ⟨rfl, hb⟩
        rw [HR.out]
        have hB6 := Below.next hB5 hb
        have x0' := (hb.cell (p := ⟨w.heap.size, 0, none⟩) xl).trans x0
        have x1' := (hb.cell (p := ⟨w.heap.size, 1, none⟩) xl).trans x1
        have xl' := Nat.lt_of_lt_of_le xl hb.size
        have y0' := (hb.cell (p := ⟨w.heap.size + 1, 0, none⟩) yl).trans y0
        have y1' := (hb.cell (p := ⟨w.heap.size + 1, 1, none⟩) yl).trans y1
        have yl' := Nat.lt_of_lt_of_le yl hb.size
        clear x0 x1 y0 y1 hb hB5 xl yl
        have HQ := Lib.hid (refS_cases qs qg)
        have HI := Lib.hid (fun h => refS_inj rs rg qs qg v hr h)
        clear hr
        go_wp2_with fail
        refine (PutRef_any qs qg _ hqg0 hqg1).mono ?_
        rintro e w7 ⟨rfl, hb⟩
        have hB7 := Below.next hB6 hb
        have x0 := (hb.cell (p := ⟨w.heap.size, 0, none⟩) xl').trans x0'
        have x1 := (hb.cell (p := ⟨w.heap.size, 1, none⟩) xl').trans x1'
        have xl := Nat.lt_of_lt_of_le xl' hb.size
        have y0 := (hb.cell (p := ⟨w.heap.size + 1, 0, none⟩) yl').trans y0'
        have y1 := (hb.cell (p := ⟨w.heap.size + 1, 1, none⟩) yl').trans y1'
        have yl := Nat.lt_of_lt_of_le yl' hb.size
        clear x0' x1' y0' y1' hb hB6 xl' yl'
        go_wp2_with fail
        refine (Ref_any v _ hv0 hv1).mono ?_
        rintro e w8 ⟨rfl, hb⟩
        rw [HD.out]
        have hB8 := Below.next hB7 hb
        have xl' := Nat.lt_of_lt_of_le xl hb.size
        have yl' := Nat.lt_of_lt_of_le yl hb.size
        have x0' := (hb.cell (p := ⟨w.heap.size, 0, none⟩) xl).trans x0
        have x1' := (hb.cell (p := ⟨w.heap.size, 1, none⟩) xl).trans x1
        have y0' := (hb.cell (p := ⟨w.heap.size + 1, 0, none⟩) yl).trans y0
        have y1' := (hb.cell (p := ⟨w.heap.size + 1, 1, none⟩) yl).trans y1
        have hnx : w.heap.size ≠ w8.heap.size := Nat.ne_of_lt xl'
        have hny : w.heap.size + 1 ≠ w8.heap.size := Nat.ne_of_lt yl'
        clear x0 x1 y0 y1 hb hB7 xl yl
        rcases HQ.out with hq | ⟨v', hq⟩
        · rw [hq]
          have HQ' := Lib.hid hq
          clear hq
          go_wp2_with fail
          refine (Zig_any n _ hn0 hn1).mono ?_
          rintro e w' ⟨rfl, rfl⟩
          go_wp2_with fail
          refine (Zag_any _ _ hzr.1 hzr.2).mono ?_
          rintro e w' ⟨rfl, rfl⟩
          rw [hzz.out]
          go_wp2_with fail
          refine (Zag_any x _ h0 h1).mono ?_
          rintro e w' ⟨rfl, rfl⟩
          go_wp2_with fail
          refine (Zig_any _ _ hzr'.1 hzr'.2).mono ?_
          rintro e w' ⟨rfl, rfl⟩
          rw [hzz'.out]
          go_wp2
          go_ret
          exact ⟨rfl, hB8.alloc hB8.size _⟩
        · rw [hq]
          by_cases e1 : rs = qs
          · subst e1
            by_cases e2 : rg = qg
            · subst e2
              have hvv : v = v' := by have := HR.out.symm.trans hq; exact congrArg Prod.fst this
              subst hvv
              clear hq
              go_wp2_with fail
              refine (Zig_any n _ hn0 hn1).mono ?_
              rintro e w' ⟨rfl, rfl⟩
              go_wp2_with fail
              refine (Zag_any _ _ hzr.1 hzr.2).mono ?_
              rintro e w' ⟨rfl, rfl⟩
              rw [hzz.out]
              go_wp2_with fail
              refine (Zag_any x _ h0 h1).mono ?_
              rintro e w' ⟨rfl, rfl⟩
              go_wp2_with fail
              refine (Zig_any _ _ hzr'.1 hzr'.2).mono ?_
              rintro e w' ⟨rfl, rfl⟩
              rw [hzz'.out]
              go_wp2
              go_ret
              exact ⟨rfl, hB8.alloc hB8.size _⟩
            · have hvv : (v == v') = false := by
                rw [beq_eq_false_iff_ne]
                intro h
                subst h
                exact e2 (HI.out hq).2
              have hgg : (rg == qg) = false := by rw [beq_eq_false_iff_ne]; exact e2
              have HQ' := Lib.hid hq
              clear hq e2
              go_wp2_with fail
              refine (Zig_any n _ hn0 hn1).mono ?_
              rintro e w' ⟨rfl, rfl⟩
              go_wp2_with fail
              refine (Zag_any _ _ hzr.1 hzr.2).mono ?_
              rintro e w' ⟨rfl, rfl⟩
              rw [hzz.out]
              go_wp2_with fail
              refine (Zag_any x _ h0 h1).mono ?_
              rintro e w' ⟨rfl, rfl⟩
              go_wp2_with fail
              refine (Zig_any _ _ hzr'.1 hzr'.2).mono ?_
              rintro e w' ⟨rfl, rfl⟩
              rw [hzz'.out]
              go_wp2
              go_ret
              exact ⟨rfl, hB8.alloc hB8.size _⟩
          · have hvv : (v == v') = false := by
              rw [beq_eq_false_iff_ne]
              intro h
              subst h
              exact e1 (HI.out hq).1
            have hgg : (rs == qs) = false := by rw [beq_eq_false_iff_ne]; exact e1
            have HQ' := Lib.hid hq
            clear hq e1
            go_wp2_with fail
            refine (Zig_any n _ hn0 hn1).mono ?_
            rintro e w' ⟨rfl, rfl⟩
            go_wp2_with fail
            refine (Zag_any _ _ hzr.1 hzr.2).mono ?_
            rintro e w' ⟨rfl, rfl⟩
            rw [hzz.out]
            go_wp2_with fail
            refine (Zag_any x _ h0 h1).mono ?_
            rintro e w' ⟨rfl, rfl⟩
            go_wp2_with fail
            refine (Zig_any _ _ hzr'.1 hzr'.2).mono ?_
            rintro e w' ⟨rfl, rfl⟩
            rw [hzz'.out]
            go_wp2
            go_ret
            exact ⟨rfl, hB8.alloc hB8.size _⟩

end Go.Proofs.Ytegnnhlbmfbioaa
