/- The contracts of package pack: one theorem a function: what a call answers and that old memory stays. -/
import Derived.Test.YtkoelbdmpnelhaaPackPlain
namespace Go.Proofs.Ytkoelbdmpnelhaa
open Go.RowKit

set_option maxHeartbeats 400000 in
theorem checkWidths_any (A : Option Addr) (zs : List Int) (c : Nat) (w : World) (hA : Rd (Value.int .i64) w w.heap.size A zs) (hl : zs.length ≤ 9223372036854775807) :
    Calls Try.prog 197 #[.slice A zs.length c] w fun e w' => e = .returned (.int .i64 (cw 64 zs)) ∧ w = w' := by
  go_enter Try.func197, Try.ntmps197
  go_wp2
  go_loop [3, 8] (fun lf i => ∃ (k : Nat) (left : Int), k ≤ zs.length ∧ 0 ≤ left ∧ left ≤ 64 ∧ i = .int .i64 k ∧ lf = .int .i64 left ∧ Hid (cw 64 zs = cw left (zs.drop k)))
    (fun _ i => zs.length - (intOf i).toNat)
  case atStart => exact ⟨0, 64, Nat.zero_le _, by omega, by omega, rfl, rfl, rfl⟩
  case round =>
    obtain ⟨k, left, hk, h0, h1, rfl, rfl, HS⟩ := hrel
    by_cases hlt : k < zs.length
    · obtain ⟨b, off, rfl, hb, hc⟩ := hA.at_ hlt
      have hs := Lib.hid (cw_step left zs k hlt)
      generalize zs[k] = z at hc hs
      by_cases hz : z < 1
      · go_wp2
        go_ret
        exact ⟨ret_int (by rw [HS.out, hs.out, if_pos (.inl hz)]), rfl⟩
      · by_cases hz2 : left < z
        · go_wp2
          go_ret
          exact ⟨ret_int (by rw [HS.out, hs.out, if_pos (.inr hz2)]), rfl⟩
        · go_wp2
          go_round
          case rel => exact ⟨k + 1, left - z, by omega, by omega, by omega, by go_num, rfl, by rw [Hid, HS.out, hs.out, if_neg (by omega)]⟩
          case measure => simp [intOf]; omega
    · go_wp2
      go_ret
      exact ⟨ret_int (by rw [HS.out, List.drop_eq_nil_of_le (by omega)]; rfl), rfl⟩

set_option maxHeartbeats 400000 in
theorem greatest_any (n : Int) (w : World) (h0 : 0 ≤ n) (h1 : n ≤ 64) :
    Calls Try.prog 198 #[.int .i64 n] w fun e w' => e = .returned (.int .u64 (2 ^ n.toNat - 1)) ∧ w = w' := by
  have hm := Lib.hid (ones_u64 n.toNat (by omega))
  go_enter Try.func198, Try.ntmps198
  go_wp2
  go_ret
  exact ⟨ret_int (by rw [IntKind.wrap_u64, IntKind.wrap_u64]; simpa using hm.out), rfl⟩

theorem info_u64 : (Try.prog.info? 101).map (fun i => (i.zero, i.size, i.bytes)) = some (some (.int .u64 0), 1, 8) := by kernel_rfl

/-- What Fields leaves: the parts in new memory. -/
def FldOut (x : Int) (zs : List Int) (w : World) (e : Ending) (w' : World) : Prop :=
  ∃ A c, e = .returned (.tuple #[.slice A (fldL x zs).length c, .int .i64 (cw 64 zs)]) ∧ Rd (Value.int .u64) w' w'.heap.size A (fldL x zs) ∧ Below w.heap.size w w'

set_option maxHeartbeats 1000000 in
theorem Fields_any (x : Int) (A : Option Addr) (zs : List Int) (c : Nat) (w : World) (h0 : 0 ≤ x) (h1 : x ≤ 18446744073709551615)
    (hA : Rd (Value.int .i64) w w.heap.size A zs) (hl : zs.length ≤ 9223372036854775807) :
    Calls Try.prog 169 #[.int .u64 x, .slice A zs.length c] w (FldOut x zs w) := by
  obtain ⟨i0, hi0, hz0, hz1, hz2⟩ := info_parts info_u64
  rcases cw_cases 64 zs with hcw | hcw
  · have hn := cw_len 64 zs hcw (by omega)
    have hmem := Lib.hid (cw_mem 64 zs hcw)
    have HC := Lib.hid hcw
    have hfld : fldL x zs = fieldsL x zs := by unfold fldL; rw [if_pos hcw]
    have HF := Lib.hid hfld
    clear hfld hcw
    go_enter Try.func169, Try.ntmps169
    go_wp2_with fail
    refine (checkWidths_any A zs c _ hA hl).mono ?_
    rintro e w1 ⟨rfl, rfl⟩
    rw [HC.out]
    have hb8 : i0.bytes * zs.length ≤ 281474976710656 := by rw [hz2]; omega
    have hml : zs.length ≤ maxLen := by unfold maxLen; omega
    go_wp2_with (at_make; refine wpList_make_full _ rfl _ _ _ rfl w.heap.size 101 i0 (.int .u64 0) 1 Try.underlying88 hi0 hz0 hz1 _ _ _ _ zs.length rfl rfl rfl rfl hb8 hml (Nat.le_refl _) ?_; intro w1 hown hgr)
    have hbel : Below w.heap.size w w1 := (Below.refl _ _).grown hgr (Nat.le_refl _) (fun _ h => by cases h)
    clear hgr hb8 hml
    go_loopw [0, 20] (fun xv i wr => ∃ (k : Nat) (y : Int) (pre : List Int), k ≤ zs.length ∧ 0 ≤ y ∧ y ≤ 18446744073709551615 ∧ i = .int .i64 k ∧ xv = .int .u64 y ∧ Hid (pre.length = k) ∧
        Hid (fieldsL x zs = pre ++ fieldsL y (zs.drop k)) ∧
        wr.ownsRow w.heap.size 101 1 (.slice (some ⟨w.heap.size, 0, none⟩) zs.length zs.length) zs.length ((pre ++ List.replicate (zs.length - k) 0).map (Value.int .u64)) ∧ Below w.heap.size w wr)
      (fun _ i _ => zs.length - (intOf i).toNat)
    case atStart => exact ⟨0, x, [], Nat.zero_le _, h0, h1, rfl, rfl, rfl, rfl, by simpa [toList_madeCells_one, Value.cells] using hown, hbel⟩
    case round =>
      obtain ⟨k, y, pre, hk, hy0, hy1, rfl, rfl, hpre, HS, hown, hbel⟩ := hrel
      by_cases hlt : k < zs.length
      · obtain ⟨b, off, rfl, hb, hc⟩ := (hA.below hbel).at_ hlt
        have hzr := hmem.out _ (List.getElem_mem hlt)
        have hs := Lib.hid (fieldsL_step y zs k hlt)
        generalize zs[k] = z at hc hs hzr
        obtain ⟨hz0', hz1'⟩ := hzr
        have hcell : wr.cell? ⟨w.heap.size, k, none⟩ = some (.int .u64 0) := by
          rw [hown.cellAt k (by omega)]
          have := hpre.out
          simp [List.getElem?_append_right, this, List.getElem?_replicate]
          omega
        have hfr : wr.frozen? ⟨w.heap.size, k, none⟩ = false := hown.frozenAt k
        have hst := hown.stored k (.int .u64 (y % 2 ^ z.toNat))
        have hval := Lib.hid (and_ones y z.toNat (by omega) hy0 (by omega))
        go_wp2_with fail
        refine (greatest_any z _ (by omega) hz1').mono ?_
        rintro e w2 ⟨rfl, rfl⟩
        rw [← hval.out] at hst
        go_wp2
        go_roundw
        case rel =>
          have hdv := div_pow_le y z.toNat hy0
          have hp := hpre.out
          refine ⟨k + 1, y / 2 ^ z.toNat, pre ++ [y % 2 ^ z.toNat], by omega, hdv.1, by omega, by go_num, rfl, by simp [Hid, hp], ?_, ?_, ?_⟩
          · rw [Hid, HS.out, hs.out]; simp
          · have h3 := hst.1
            rw [hval.out, row_set pre zs.length k _ _ hp hlt] at h3
            rw [hval.out]
            exact h3
          · exact hbel.setCell (Nat.le_refl _) _
        case measure => simp [intOf]; omega
      · go_wp2
        go_ret2
        have hkk : k = zs.length := by omega
        have hp := hpre.out
        subst hkk
        have hf : fldL x zs = pre := by rw [HF.out, HS.out, List.drop_length]; simp [fieldsL]
        refine ⟨some ⟨w.heap.size, 0, none⟩, zs.length, ?_, ?_, hbel⟩
        · rw [hf, hp, HC.out]; rfl
        · rw [hf]
          have h2 := hown
          rw [show zs.length - zs.length = 0 from Nat.sub_self _, List.replicate_zero, List.append_nil] at h2
          exact Rd.of_own h2
  · have HC := Lib.hid hcw
    have hfld : fldL x zs = [] := by unfold fldL; rw [if_neg (by rw [hcw]; decide)]
    have HF := Lib.hid hfld
    clear hfld hcw
    go_enter Try.func169, Try.ntmps169
    go_wp2_with fail
    refine (checkWidths_any A zs c _ hA hl).mono ?_
    rintro e w1 ⟨rfl, rfl⟩
    rw [HC.out]
    go_wp2
    go_ret2
    refine ⟨none, 0, ?_, ?_, Below.refl _ _⟩
    · rw [HF.out, HC.out]; rfl
    · rw [HF.out]; exact Rd.nil

def JoinOut (ls zs : List Int) (w : World) (e : Ending) (w' : World) : Prop :=
  e = .returned (.tuple #[.int .u64 (joinL ls zs).1, .int .i64 (joinL ls zs).2]) ∧ Drawn w w'

set_option maxHeartbeats 1000000 in
theorem PkJoin_any (L : Option Addr) (ls : List Int) (d : Nat) (A : Option Addr) (zs : List Int) (c : Nat) (w : World)
    (hL : Rd (Value.int .u64) w w.heap.size L ls) (hA : Rd (Value.int .i64) w w.heap.size A zs) (hll : ls.length ≤ 9223372036854775807) (hl : zs.length ≤ 9223372036854775807)
    (hls : Hid (∀ x ∈ ls, 0 ≤ x ∧ x ≤ 18446744073709551615)) :
    Calls Try.prog 200 #[.slice L ls.length d, .slice A zs.length c] w (JoinOut ls zs w) := by
  rcases cw_cases 64 zs with hcw | hcw
  · by_cases hlen : ls.length = zs.length
    · have hn := cw_len 64 zs hcw (by omega)
      have HC := Lib.hid hcw
      have hj : joinL ls zs = joinGo 0 0 ls zs := by unfold joinL; rw [if_pos hcw, if_pos hlen]
      have HJ := Lib.hid hj
      have hne : ((ls.length : Int) == (zs.length : Int)) = true := by simp [hlen]
      have hneq : ((ls.length : Int) != (zs.length : Int)) = false := by simp [hlen]
      have HL := Lib.hid hlen
      clear hj hcw hlen
      go_enter Try.func200, Try.ntmps200
      go_wp2_with fail
      refine (checkWidths_any A zs c _ hA hl).mono ?_
      rintro e w1 ⟨rfl, rfl⟩
      rw [HC.out]
      go_wp2
      go_loopw [7, 8, 23] (fun xv pv i wr => ∃ (k place : Nat) (acc : Int), k ≤ zs.length ∧ i = .int .i64 k ∧ pv = .int .i64 place ∧ xv = .int .u64 acc ∧ place ≤ 64 ∧ 0 ≤ acc ∧
          Hid (acc < 2 ^ place) ∧ Hid (cw (64 - place) (zs.drop k) = 0) ∧ Hid (joinL ls zs = joinGo acc place (ls.drop k) (zs.drop k)) ∧ Drawn w wr)
        (fun _ _ i _ => zs.length - (intOf i).toNat)
      case atStart => exact ⟨0, 0, 0, Nat.zero_le _, rfl, rfl, rfl, by omega, by omega, by simp [Hid], HC.out, HJ.out, Drawn.refl⟩
      case round =>
        obtain ⟨k, place, acc, hk, rfl, rfl, rfl, hp0, ha0, ha1, HW, HS, hdr⟩ := hrel
        by_cases hlt : k < zs.length
        · have hlt' : k < ls.length := by have := HL.out; omega
          obtain ⟨b, off, rfl, hb, hc0⟩ := hA.at_ hlt
          obtain ⟨b', off', rfl, hb', hc0'⟩ := hL.at_ hlt'
          have hc := (hdr.cell _).trans hc0
          have hc' := (hdr.cell _).trans hc0'
          have hxr := hls.out _ (List.getElem_mem hlt')
          have hs := Lib.hid (joinGo_step acc place ls zs k hlt hlt')
          have hwst := cw_step (64 - place) zs k hlt
          rw [HW.out] at hwst
          clear hc0 hc0'
          generalize zs[k] = z at hc hs hwst
          generalize ls[k] = l at hc' hs hxr
          have hzr : 1 ≤ z ∧ z ≤ 64 - place ∧ cw (64 - place - z) (zs.drop (k + 1)) = 0 := by
            split at hwst
            · exact absurd hwst (by decide)
            · exact ⟨by omega, by omega, hwst.symm⟩
          clear hwst
          obtain ⟨hz0, hz1, hwn0⟩ := hzr
          have hwn := Lib.hid hwn0
          clear hwn0
          obtain ⟨hx0, hx1⟩ := hxr
          by_cases hbig : 2 ^ z.toNat - 1 < l
          · go_wp2_with fail
            go_quiet ((go_at_call 198; exact quiet_same (greatest_any z _ (by omega) (by omega))))
            go_wp2
            go_ret2
            exact ⟨by rw [HS.out, hs.out, if_pos hbig]; rfl, hdr.step _⟩
          · have hop := or_part acc l place z.toNat ha0 ha1.out hx0 (by omega) (by omega)
            have HO := Lib.hid hop.1
            have HP := Lib.hid hop.2.2
            have ho0 := hop.2.1
            clear hop
            go_wp2_with fail
            go_quiet ((go_at_call 198; exact quiet_same (greatest_any z _ (by omega) (by omega))))
            go_wp2
            go_roundw
            case rel =>
              refine ⟨k + 1, place + z.toNat, acc + l * 2 ^ place, by omega, by go_num, ?_, ?_, by omega, ho0, HP.out, ?_, ?_, hdr.step _⟩
              · rw [show ((place + z.toNat : Nat) : Int) = (place : Int) + z from by omega]
              · rw [HO.out]
              · have e := hwn.out
                rw [show (64 : Int) - (place : Int) - z = 64 - ((place + z.toNat : Nat) : Int) from by omega] at e
                exact e
              · have e := HS.out.trans hs.out
                rw [if_neg (by omega)] at e
                exact e
            case measure => simp [intOf]; omega
        · go_wp2
          go_ret2
          exact ⟨by rw [HS.out, show zs.drop k = [] from List.drop_eq_nil_of_le (by omega), joinGo_nil]; rfl, hdr⟩
    · have HC := Lib.hid hcw
      have hj : joinL ls zs = (0, 7) := by unfold joinL; rw [if_pos hcw, if_neg hlen]
      have HJ := Lib.hid hj
      have hne : ((ls.length : Int) == (zs.length : Int)) = false := by simp; omega
      have hneq : ((ls.length : Int) != (zs.length : Int)) = true := by simp; omega
      clear hj hcw hlen
      go_enter Try.func200, Try.ntmps200
      go_wp2_with fail
      refine (checkWidths_any A zs c _ hA hl).mono ?_
      rintro e w1 ⟨rfl, rfl⟩
      rw [HC.out]
      go_wp2
      go_ret2
      exact ⟨by rw [HJ.out]; rfl, Drawn.refl⟩
  · have HC := Lib.hid hcw
    have hj : joinL ls zs = (0, 6) := by unfold joinL; rw [if_neg (by rw [hcw]; decide)]
    have HJ := Lib.hid hj
    clear hj hcw
    go_enter Try.func200, Try.ntmps200
    go_wp2_with fail
    refine (checkWidths_any A zs c _ hA hl).mono ?_
    rintro e w1 ⟨rfl, rfl⟩
    rw [HC.out]
    go_wp2
    go_ret2
    exact ⟨by rw [HJ.out]; rfl, Drawn.refl⟩

end Go.Proofs.Ytkoelbdmpnelhaa
