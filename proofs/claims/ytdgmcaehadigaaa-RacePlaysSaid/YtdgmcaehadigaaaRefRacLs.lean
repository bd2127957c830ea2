/- The document's watch (ganglionref18), by contract: least. -/
import Derived.Test.YtdgmcaehadigaaaRefRacRd
namespace Go.Proofs.Ytdgmcaehadigaaa
open Go.RowKit

/-- A note, cell by cell; none is zero. -/
def ntC : Option NT → List Value
  | none => [.int .i64 0, .int .i64 0, .int .i64 0]
  | some n => [.int .i64 n.1.1, .int .i64 n.1.2, .int .i64 n.2]
theorem lst_take {a : AX} {k : Nat} {d : Int} {L : List NT} {j : Nat} {z : NT} (hz : L[j]? = some z) : lst a k d (L.take (j + 1)) none = (if (decide (z.1.1 = d) && !knownY a k z && ltO z (lst a k d (L.take j) none)) = true then some z else lst a k d (L.take j) none) := by
  rw [List.take_add_one, hz]
  exact lst_snoc a k d z (L.take j) none
set_option maxRecDepth 100000 in
set_option maxHeartbeats 8000000 in
theorem RLeast_any {w : World} {S : Nat → Prop} {A1 A2 A3 A4 A5 : Option Addr} {c1 c2 c3 c4 c5 l1 l2 l3 l4 l5 : Nat} {y : YX} {a : AX} {k : Nat} (h : RYs w S A1 A2 A3 A4 A5 y) (hck : ckN y k = a.N k) (hl1 : y.ck.length = l1) (hl4 : y.rd.length = l4) (d : Int) :
    Calls Try.prog 79 #[.agg #[.slice A1 l1 c1, .slice A2 l2 c2, .slice A3 l3 c3, .slice A4 l4 c4, .slice A5 l5 c5], .int .i64 (k : Int), .int .i64 d] w fun e w' => e = .returned (.tuple #[.agg (ntC (lst a k d y.rd none)).toArray, .bool (lst a k d y.rd none).isSome]) ∧ Below w.heap.size w w' := by
  have HK := Lib.hid (fun W (hb : Below w.heap.size w W) (pl wk tm : Int) => show Calls Try.prog 116 #[.agg #[.slice A1 l1 c1, .slice A2 l2 c2, .slice A3 l3 c3, .slice A4 l4 c4, .slice A5 l5 c5], .int .i64 (k : Int), .agg #[.int .i64 pl, .int .i64 wk, .int .i64 tm]] W fun e w' => e = .returned (.bool (knownY a k ((pl, wk), tm))) ∧ Below W.heap.size W w' from by
    have := RKnown_any (c1 := c1) (c2 := c2) (c3 := c3) (c4 := c4) (c5 := c5) (l2 := l2) (l3 := l3) (l4 := l4) (l5 := l5) (h.below hb) hl1 k pl wk tm
    rw [hck] at this
    exact this)
  have HC := Lib.hid h.rd
  have few := h.few.2.2.2.1
  have bx1 := Bx.new w [.slice A1 l1 c1, .slice A2 l2 c2, .slice A3 l3 c3, .slice A4 l4 c4, .slice A5 l5 c5] 30
  have bx2 := Bx.new (w.alloc (.cells #[.slice A1 l1 c1, .slice A2 l2 c2, .slice A3 l3 c3, .slice A4 l4 c4, .slice A5 l5 c5] 30)) [.int .i64 0, .int .i64 0, .int .i64 0] 131
  have bx3 := Bx.new ((w.alloc (.cells #[.slice A1 l1 c1, .slice A2 l2 c2, .slice A3 l3 c3, .slice A4 l4 c4, .slice A5 l5 c5] 30)).alloc (.cells #[.int .i64 0, .int .i64 0, .int .i64 0] 131)) [.int .i64 0, .int .i64 0, .int .i64 0] 131
  have bb1 := below_new w (.cells #[.slice A1 l1 c1, .slice A2 l2 c2, .slice A3 l3 c3, .slice A4 l4 c4, .slice A5 l5 c5] 30)
  have bb2 := below_new (w.alloc (.cells #[.slice A1 l1 c1, .slice A2 l2 c2, .slice A3 l3 c3, .slice A4 l4 c4, .slice A5 l5 c5] 30)) (.cells #[.int .i64 0, .int .i64 0, .int .i64 0] 131)
  have bb3 := below_new ((w.alloc (.cells #[.slice A1 l1 c1, .slice A2 l2 c2, .slice A3 l3 c3, .slice A4 l4 c4, .slice A5 l5 c5] 30)).alloc (.cells #[.int .i64 0, .int .i64 0, .int .i64 0] 131)) (.cells #[.int .i64 0, .int .i64 0, .int .i64 0] 131)
  have HT : Hid (∀ Y, Y = ((w.alloc (.cells #[.slice A1 l1 c1, .slice A2 l2 c2, .slice A3 l3 c3, .slice A4 l4 c4, .slice A5 l5 c5] 30)).alloc (.cells #[.int .i64 0, .int .i64 0, .int .i64 0] 131)).alloc (.cells #[.int .i64 0, .int .i64 0, .int .i64 0] 131) → Bx Y w.heap.size [.slice A1 l1 c1, .slice A2 l2 c2, .slice A3 l3 c3, .slice A4 l4 c4, .slice A5 l5 c5] ∧ Bx Y (w.heap.size + 1) [.int .i64 0, .int .i64 0, .int .i64 0] ∧ Bx Y (w.heap.size + 1 + 1) [.int .i64 0, .int .i64 0, .int .i64 0] ∧ Below w.heap.size w Y) := Lib.hid fun Y hY => by
    subst hY
    simp only [World.size_alloc] at bx2 bx3
    exact ⟨(bx1.below bb2).below bb3, bx2.below bb3, bx3, Below.next (Below.next bb1 bb2) bb3⟩
  have H0 : Hid (lst a k d (y.rd.take 0) none = none) := Lib.hid rfl
  have HAL : Hid (lst a k d (y.rd.take y.rd.length) none = lst a k d y.rd none) := Lib.hid (by rw [List.take_length])
  have HST := Lib.hid (fun j z hz => lst_take (a := a) (k := k) (d := d) (L := y.rd) (j := j) (z := z) hz)
  clear bx1 bx2 bx3 bb1 bb2 bb3 h hck hl1
  generalize hL : y.rd = L at *
  go_enter Try.func79, Try.ntmps79
  go_upto_region 3 with (fail)
  obtain ⟨Y, hY⟩ : ∃ Y, Y = ((w.alloc (.cells #[.slice A1 l1 c1, .slice A2 l2 c2, .slice A3 l3 c3, .slice A4 l4 c4, .slice A5 l5 c5] 30)).alloc (.cells #[.int .i64 0, .int .i64 0, .int .i64 0] 131)).alloc (.cells #[.int .i64 0, .int .i64 0, .int .i64 0] 131) := ⟨_, rfl⟩
  have HY := Lib.hid (HT.out Y hY)
  rw [← hY]
  clear hY HT
  have x3 := HY.out.1.c 3 _ rfl
  go_wp2
  clear x3
  go_loopw [9, 15] (fun s i wr => ∃ (j : Nat) (o : Option NT), j ≤ l4 ∧ i = .int .i64 (j : Int) ∧ s = .bool o.isSome ∧ Hid (lst a k d (L.take j) none = o) ∧ Below w.heap.size w wr ∧ Bx wr w.heap.size [.slice A1 l1 c1, .slice A2 l2 c2, .slice A3 l3 c3, .slice A4 l4 c4, .slice A5 l5 c5] ∧ Bx wr (w.heap.size + 1) [.int .i64 0, .int .i64 0, .int .i64 0] ∧ Bx wr (w.heap.size + 1 + 1) (ntC o)) (fun _ i _ => l4 - (intOf i).toNat)
  case atStart => exact ⟨0, none, Nat.zero_le _, rfl, rfl, H0, HY.out.2.2.2, HY.out.1, HY.out.2.1, HY.out.2.2.1⟩
  case round =>
    obtain ⟨j, o, hj, rfl, rfl, HO, hb, hd, hr, ho⟩ := hrel
    by_cases hlt : j < l4
    · obtain ⟨⟨⟨pl, wk⟩, tm⟩, hz⟩ : ∃ p, L[j]? = some p := ⟨_, List.getElem?_eq_getElem (by omega)⟩
      obtain ⟨bb, off, rfl, hbb, q0, q1, q2⟩ := (HC.out.below hb).nt hz
      have HSTJ := Lib.hid (HST.out j _ hz)
      rw [HO.out] at HSTJ
      simp only at q0 q1 q2
      have hkl : (j : Int) < (l4 : Int) := by omega
      have hk0 : (0 : Int) ≤ (j : Int) := by omega
      have hbn := below_new wr (.cells #[.int .i64 pl, .int .i64 wk, .int .i64 tm] 131)
      have HE := Lib.hid (show Bx (wr.alloc (.cells #[.int .i64 pl, .int .i64 wk, .int .i64 tm] 131)) wr.heap.size [.int .i64 pl, .int .i64 wk, .int .i64 tm] from Bx.new wr [.int .i64 pl, .int .i64 wk, .int .i64 tm] 131)
      have HD := Lib.hid (hd.below hbn)
      have HR := Lib.hid (hr.below hbn)
      have HQ := Lib.hid (ho.below hbn)
      have HB := Lib.hid (Below.next hb hbn)
      clear hbn hb hd hr ho hz HO
      go_upto_region 6 with (fail)
      generalize wr.alloc (.cells #[.int .i64 pl, .int .i64 wk, .int .i64 tm] 131) = U at *
      generalize wr.heap.size = E at *
      clear q0 q1 q2
      have n0 := HE.out.c 0 _ rfl
      have n1 := HE.out.c 1 _ rfl
      have n2 := HE.out.c 2 _ rfl
      have x0 := HD.out.c 0 _ rfl
      have x1 := HD.out.c 1 _ rfl
      have x2 := HD.out.c 2 _ rfl
      have x3 := HD.out.c 3 _ rfl
      have x4 := HD.out.c 4 _ rfl
      by_cases e : pl = d
      · have HKK := Lib.hid (HK.out U HB.out pl wk tm)
        have HSE : Hid (lst a k d (L.take (j + 1)) none = if (!knownY a k ((pl, wk), tm) && ltO ((pl, wk), tm) o) = true then some ((pl, wk), tm) else o) := Lib.hid (by
          rw [HSTJ.out]
          show (if (decide (pl = d) && !knownY a k ((pl, wk), tm) && ltO ((pl, wk), tm) o) = true then _ else _) = _
          rw [decide_eq_true e, Bool.true_and])
        clear HSTJ
        subst e
        cases hkn : knownY a k ((pl, wk), tm) with
        | true =>
          rw [hkn] at HKK HSE
          have HN : Hid (lst a k pl (L.take (j + 1)) none = o) := Lib.hid (by rw [HSE.out, if_neg (by simp)])
          clear hkn HSE
          go_wp2_with fail
          refine HKK.out.mono ?_
          rintro e w5 ⟨rfl, hb5⟩
          have HB5 := Lib.hid (Below.next HB.out hb5)
          have HD5 := Lib.hid (HD.out.below hb5)
          have HR5 := Lib.hid (HR.out.below hb5)
          have HQ5 := Lib.hid (HQ.out.below hb5)
          clear hb5 HKK HD HR HQ HB HE n0 n1 n2 x0 x1 x2 x3 x4
          go_wp2
          go_roundw
          case rel => exact ⟨j + 1, o, by omega, by go_num, rfl, HN, HB5.out, HD5.out, HR5.out, HQ5.out⟩
          case measure => simp [intOf]; omega
        | false =>
          rw [hkn] at HKK HSE
          rw [Bool.not_false, Bool.true_and] at HSE
          clear hkn
          go_wp2_with fail
          refine HKK.out.mono ?_
          rintro e w5 ⟨rfl, hb5⟩
          have HB5 := Lib.hid (Below.next HB.out hb5)
          have HD5 := Lib.hid (HD.out.below hb5)
          have HR5 := Lib.hid (HR.out.below hb5)
          have HQ5 := Lib.hid (HQ.out.below hb5)
          have HE5 := Lib.hid (HE.out.below hb5)
          clear hb5 HKK HD HR HQ HB HE n0 n1 n2 x0 x1 x2 x3 x4
          have n0 := HE5.out.c 0 _ rfl
          have n1 := HE5.out.c 1 _ rfl
          have n2 := HE5.out.c 2 _ rfl
          have f0 := HQ5.out.f 0
          have f1 := HQ5.out.f 1
          have f2 := HQ5.out.f 2
          cases o with
          | none =>
            have HN : Hid (lst a k pl (L.take (j + 1)) none = some ((pl, wk), tm)) := Lib.hid (by rw [HSE.out]; rfl)
            have o0 := HQ5.out.c 0 _ rfl
            have o1 := HQ5.out.c 1 _ rfl
            have o2 := HQ5.out.c 2 _ rfl
            have HQ6 := Lib.hid (show Bx (((w5.setCell ⟨w.heap.size + 1 + 1, 0, none⟩ (.int .i64 pl)).setCell ⟨w.heap.size + 1 + 1, 1, none⟩ (.int .i64 wk)).setCell ⟨w.heap.size + 1 + 1, 2, none⟩ (.int .i64 tm)) (w.heap.size + 1 + 1) (ntC (some ((pl, wk), tm))) from (show Bx w5 (w.heap.size + 1 + 1) [.int .i64 0, .int .i64 0, .int .i64 0] from HQ5.out).put3 (.int .i64 pl) (.int .i64 wk) (.int .i64 tm))
            have hn1 : ∀ (W : World) (j : Nat) (v : Value), Bx W w.heap.size [.slice A1 l1 c1, .slice A2 l2 c2, .slice A3 l3 c3, .slice (some ⟨bb, off, none⟩) l4 c4, .slice A5 l5 c5] → Bx (W.setCell ⟨w.heap.size + 1 + 1, j, none⟩ v) w.heap.size [.slice A1 l1 c1, .slice A2 l2 c2, .slice A3 l3 c3, .slice (some ⟨bb, off, none⟩) l4 c4, .slice A5 l5 c5] := fun W j v h => h.other (by show w.heap.size + 1 + 1 ≠ w.heap.size; omega) v
            have hn2 : ∀ (W : World) (j : Nat) (v : Value), Bx W (w.heap.size + 1) [.int .i64 0, .int .i64 0, .int .i64 0] → Bx (W.setCell ⟨w.heap.size + 1 + 1, j, none⟩ v) (w.heap.size + 1) [.int .i64 0, .int .i64 0, .int .i64 0] := fun W j v h => h.other (by show w.heap.size + 1 + 1 ≠ w.heap.size + 1; omega) v
            have HD6 := Lib.hid (hn1 _ 2 (.int .i64 tm) (hn1 _ 1 (.int .i64 wk) (hn1 _ 0 (.int .i64 pl) HD5.out)))
            have HR6 := Lib.hid (hn2 _ 2 (.int .i64 tm) (hn2 _ 1 (.int .i64 wk) (hn2 _ 0 (.int .i64 pl) HR5.out)))
            have HB6 := Lib.hid (below_put3 (b := w.heap.size + 1 + 1) HB5.out (by omega) (.int .i64 pl) (.int .i64 wk) (.int .i64 tm))
            clear HSE hn1 hn2 HD5 HR5 HB5 HQ5 HE5
            go_wp2
            go_roundw
            case rel => exact ⟨j + 1, some ((pl, wk), tm), by omega, by go_num, rfl, HN, HB6.out, HD6.out, HR6.out, HQ6.out⟩
            case measure => simp [intOf]; omega
          | some p =>
            obtain ⟨⟨pp, pw⟩, pt⟩ := p
            have o0 := HQ5.out.c 0 _ rfl
            have o1 := HQ5.out.c 1 _ rfl
            have o2 := HQ5.out.c 2 _ rfl
            simp only at o0 o1 o2
            by_cases hlw : wk < pw
            · have HN : Hid (lst a k pl (L.take (j + 1)) none = some ((pl, wk), tm)) := Lib.hid (by rw [HSE.out, if_pos (by show decide (wk < pw) = true; exact decide_eq_true hlw)])
              have HQ6 := Lib.hid (show Bx (((w5.setCell ⟨w.heap.size + 1 + 1, 0, none⟩ (.int .i64 pl)).setCell ⟨w.heap.size + 1 + 1, 1, none⟩ (.int .i64 wk)).setCell ⟨w.heap.size + 1 + 1, 2, none⟩ (.int .i64 tm)) (w.heap.size + 1 + 1) (ntC (some ((pl, wk), tm))) from (show Bx w5 (w.heap.size + 1 + 1) [.int .i64 pp, .int .i64 pw, .int .i64 pt] from HQ5.out).put3 (.int .i64 pl) (.int .i64 wk) (.int .i64 tm))
              have hn1 : ∀ (W : World) (j : Nat) (v : Value), Bx W w.heap.size [.slice A1 l1 c1, .slice A2 l2 c2, .slice A3 l3 c3, .slice (some ⟨bb, off, none⟩) l4 c4, .slice A5 l5 c5] → Bx (W.setCell ⟨w.heap.size + 1 + 1, j, none⟩ v) w.heap.size [.slice A1 l1 c1, .slice A2 l2 c2, .slice A3 l3 c3, .slice (some ⟨bb, off, none⟩) l4 c4, .slice A5 l5 c5] := fun W j v h => h.other (by show w.heap.size + 1 + 1 ≠ w.heap.size; omega) v
              have hn2 : ∀ (W : World) (j : Nat) (v : Value), Bx W (w.heap.size + 1) [.int .i64 0, .int .i64 0, .int .i64 0] → Bx (W.setCell ⟨w.heap.size + 1 + 1, j, none⟩ v) (w.heap.size + 1) [.int .i64 0, .int .i64 0, .int .i64 0] := fun W j v h => h.other (by show w.heap.size + 1 + 1 ≠ w.heap.size + 1; omega) v
              have HD6 := Lib.hid (hn1 _ 2 (.int .i64 tm) (hn1 _ 1 (.int .i64 wk) (hn1 _ 0 (.int .i64 pl) HD5.out)))
              have HR6 := Lib.hid (hn2 _ 2 (.int .i64 tm) (hn2 _ 1 (.int .i64 wk) (hn2 _ 0 (.int .i64 pl) HR5.out)))
              have HB6 := Lib.hid (below_put3 (b := w.heap.size + 1 + 1) HB5.out (by omega) (.int .i64 pl) (.int .i64 wk) (.int .i64 tm))
              clear HSE hn1 hn2 HD5 HR5 HB5 HQ5 HE5
              go_wp2
              go_roundw
              case rel => exact ⟨j + 1, some ((pl, wk), tm), by omega, by go_num, rfl, HN, HB6.out, HD6.out, HR6.out, HQ6.out⟩
              case measure => simp [intOf]; omega
            · have HN : Hid (lst a k pl (L.take (j + 1)) none = some ((pp, pw), pt)) := Lib.hid (by rw [HSE.out, if_neg (by show ¬ decide (wk < pw) = true; simpa using hlw)])
              clear HSE
              go_wp2
              go_roundw
              case rel => exact ⟨j + 1, some ((pp, pw), pt), by omega, by go_num, rfl, HN, HB5.out, HD5.out, HR5.out, HQ5.out⟩
              case measure => simp [intOf]; omega
      · have HN : Hid (lst a k d (L.take (j + 1)) none = o) := Lib.hid (by
          rw [HSTJ.out]
          show (if (decide (pl = d) && !knownY a k ((pl, wk), tm) && ltO ((pl, wk), tm) o) = true then _ else _) = _
          rw [decide_eq_false e]
          rfl)
        clear x0 x1 x2 x3 x4 n1 n2
        go_wp2
        go_roundw
        case rel => exact ⟨j + 1, o, by omega, by go_num, rfl, HN, HB.out, HD.out, HR.out, HQ.out⟩
        case measure => simp [intOf]; omega
    · obtain rfl : l4 = j := by omega
      have HOO : Hid (lst a k d L none = o) := Lib.hid (by rw [← HO.out, ← HAL.out, hl4])
      have HRR := Lib.hid hr
      have HBB := Lib.hid hb
      have y0 := hr.c 0 _ rfl
      have y1 := hr.c 1 _ rfl
      have y2 := hr.c 2 _ rfl
      have k0 := hr.f 0
      have k1 := hr.f 1
      have k2 := hr.f 2
      cases o with
      | none =>
        have o0 := ho.c 0 _ rfl
        have o1 := ho.c 1 _ rfl
        have o2 := ho.c 2 _ rfl
        have HPP := Lib.hid (hr.put3 (.int .i64 0) (.int .i64 0) (.int .i64 0))
        have HBF := Lib.hid (below_put3 (b := w.heap.size + 1) hb (by omega) (.int .i64 0) (.int .i64 0) (.int .i64 0))
        clear hb hd hr ho HO HAL HST HK HC H0 HY
        go_wp2
        have q0 := HPP.out.c 0 _ rfl
        have q1 := HPP.out.c 1 _ rfl
        have q2 := HPP.out.c 2 _ rfl
        exact bodyPost_ret (v := .tuple #[.agg #[.int .i64 0, .int .i64 0, .int .i64 0], .bool false]) (by simp [results, Try.results79, go_sem, q0, q1, q2]) rfl ⟨by rw [HOO.out]; rfl, HBF.out⟩
      | some p =>
        obtain ⟨⟨pp, pw⟩, pt⟩ := p
        have o0 := ho.c 0 _ rfl
        have o1 := ho.c 1 _ rfl
        have o2 := ho.c 2 _ rfl
        simp only at o0 o1 o2
        have HPP := Lib.hid (hr.put3 (.int .i64 pp) (.int .i64 pw) (.int .i64 pt))
        have HBF := Lib.hid (below_put3 (b := w.heap.size + 1) hb (by omega) (.int .i64 pp) (.int .i64 pw) (.int .i64 pt))
        clear hb hd hr ho HO HAL HST HK HC H0 HY
        go_wp2
        have q0 := HPP.out.c 0 _ rfl
        have q1 := HPP.out.c 1 _ rfl
        have q2 := HPP.out.c 2 _ rfl
        exact bodyPost_ret (v := .tuple #[.agg #[.int .i64 pp, .int .i64 pw, .int .i64 pt], .bool true]) (by simp [results, Try.results79, go_sem, q0, q1, q2]) rfl ⟨by rw [HOO.out]; rfl, HBF.out⟩
end Go.Proofs.Ytdgmcaehadigaaa
