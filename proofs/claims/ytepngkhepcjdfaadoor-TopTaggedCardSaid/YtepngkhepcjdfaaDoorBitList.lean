/- bitset.List by contract: the numbers of the set, rising. -/
import Derived.Test.YtepngkhepcjdfaaDoorBitNext
namespace Go.Proofs.YtepngkhepcjdfaaDoor
open Go.RowKit

theorem info_num : (Tryd.prog.info? 3).map (fun i => (i.zero, i.size, i.bytes)) = some (some (.int .i64 0), 1, 8) := by kernel_rfl

/-- The numbers of the words come back in new memory. -/
def NumsOut (zs : List Int) (w : World) (e : Ending) (w' : World) : Prop :=
  ∃ (L : List Int) (A : Option Addr) (c : Nat), e = .returned (.slice A L.length c) ∧ Rd (Value.int .i64) w' w'.heap.size A L ∧ Nums zs L ∧ Below w.heap.size w w'

set_option maxHeartbeats 2000000 in
theorem List_any (A : Option Addr) (zs : List Int) (c : Nat) (w : World) (hA : Rd (Value.int .u64) w w.heap.size A zs) (hw : Words zs) (hc : zs.length ≤ c) (hc2 : c ≤ 9223372036854775807) (hT : Tab w) :
    Calls Tryd.prog 31 #[.slice A zs.length c] w (NumsOut zs w) := by
  obtain ⟨i0, hi0, hz0, hz1, hz2⟩ := info_parts info_num
  have hA' := hA.take (n := 64)
  have hl : (zs.take 64).length ≤ 64 := List.length_take_le _ _
  have hcn : cntS zs ≤ 4096 := by have := cnt_le (zs.take 64); unfold cntS; omega
  have hb8 : i0.bytes * cntS zs ≤ 281474976710656 := by rw [hz2]; omega
  have hml : cntS zs ≤ maxLen := by unfold maxLen; omega
  have hall := Lib.hid (fun (L : List Int) (b : Int) (h : Part zs b L) (hb : ((zs.take 64).length : Int) * 64 ≤ b) => h.all hb)
  have hget := Lib.hid (getD_take zs)
  have HW := Lib.hid hw
  have hcnt := Lib.hid (Count_any A zs c w hA hw hc hc2)
  have hsp := Lib.hid (fun w => spoken_any A zs c w hc hc2)
  clear hA hw hc hc2
  generalize zs.take 64 = ys at *
  go_enter Tryd.func31, Tryd.ntmps31
  go_wp2_with fail
  refine hcnt.out.mono ?_
  rintro e w1 ⟨rfl, rfl⟩
  clear hcnt
  generalize cntS zs = C at *
  go_wp2_with (at_make; refine wpList_make_own _ rfl _ _ _ rfl w.heap.size 3 i0 (.int .i64 0) 1 Tryd.underlying36 hi0 hz0 hz1 _ _ _ C rfl rfl rfl hb8 hml (Nat.le_refl _) ?_; intro w1 hown hgr)
  have hbel : Below w.heap.size w w1 := (Below.refl _ _).grown hgr (Nat.le_refl _) (fun _ h => by cases h)
  clear hgr hb8 hml
  go_wp2_with fail
  refine (hsp.out _).mono ?_
  rintro e w2 ⟨rfl, rfl⟩
  clear hsp
  go_wp2
  go_loopw [3, 12] (fun v i wr => ∃ (k : Nat) (L : List Int), k ≤ ys.length ∧ i = .int .i64 k ∧ wr.ownsRow w.heap.size 3 1 v L.length (L.map (Value.int .i64)) ∧ Hid (Part zs ((k : Int) * 64) L) ∧ Below w.heap.size w wr)
    (fun _ i _ => ys.length - (intOf i).toNat)
  case atStart => exact ⟨0, [], Nat.zero_le _, rfl, by simpa using hown, Part.start zs, hbel⟩
  case round =>
    obtain ⟨k, L, hk, rfl, hown, HP, hbel⟩ := hrel
    by_cases hlt : k < ys.length
    · obtain ⟨b, off, rfl, hb, hcell⟩ := (hA'.below hbel).at_ hlt
      have hX : zs.getD k 0 = ys[k] := by rw [← hget.out k (by omega), List.getD_eq_getElem?_getD, List.getElem?_eq_getElem hlt]; rfl
      have hr := HW.out.getD k
      rw [hX] at hr
      obtain ⟨X, hXn⟩ := Int.eq_ofNat_of_zero_le hr.1
      rw [hXn] at hcell hX hr
      have hxl : X < 18446744073709551616 := by omega
      clear hXn hr
      have HX := Lib.hid hX
      have HXL := Lib.hid hxl
      clear hX hxl
      obtain ⟨wo, rfl⟩ : ∃ wo : World, wo = wr := ⟨_, rfl⟩
      have hb0 := hbel.size
      go_wp2
      go_loopw [3, 5] (fun v u wr => ∃ (p q : Nat) (L : List Int), p ≤ 64 ∧ u = .int .u64 q ∧ Hid (q = X / 2 ^ p * 2 ^ p) ∧ wr.ownsRow w.heap.size 3 1 v L.length (L.map (Value.int .i64)) ∧ Hid (Part zs ((k : Int) * 64 + p) L) ∧ Below w.heap.size w wr)
        (fun _ u _ => (intOf u).toNat)
      case atStart => exact ⟨0, X, L, by omega, rfl, by simp [Hid], hown, by simpa [Hid] using HP.out, hbel⟩
      case round =>
        obtain ⟨p, q, L', hp, rfl, HQ, hown', HP', hbel'⟩ := hrel
        have hb1 := hbel'.size
        by_cases hq0 : q = 0
        · have hno := word_none zs k p X (by omega) HX.out (by rw [← HQ.out]; exact hq0)
          have HN := Lib.hid (HP'.out.skip (b' := ((k + 1 : Nat) : Int) * 64) (by omega) (fun j h1 h2 => hno j h1 (by omega)))
          subst hq0
          clear hno
          go_wp2
          go_roundw
          case rel => exact ⟨k + 1, L', by omega, by go_num, hown', HN.out, hbel'⟩
          case measure => simp [intOf]; omega
        · have hne : X / 2 ^ p * 2 ^ p ≠ 0 := by rw [← HQ.out]; exact hq0
          have hwl := word_lowest zs k p X (by omega) HX.out HXL.out hne
          rw [← HQ.out] at hwl
          obtain ⟨w1, w2, w3, w4, w5⟩ := hwl
          have hql : q < 18446744073709551616 := by rw [HQ.out]; exact Nat.lt_of_le_of_lt (Nat.div_mul_le_self _ _) HXL.out
          have hqi : ((q : Int) != 0) = true := by rw [bne_iff_ne]; omega
          have hq1 : 1 ≤ (q : Int) := by omega
          have hand : bits .and .u64 (q : Int) (IntKind.u64.wrap ((q : Int) - 1)) = ((q &&& (q - 1) : Nat) : Int) := by
            rw [IntKind.wrap_u64, Int.emod_eq_of_lt (by omega) (by omega), bits_and_u64 (q : Int) ((q : Int) - 1) (by omega) (by omega) (by omega) (by omega), Int.toNat_natCast, show ((q : Int) - 1).toNat = q - 1 from by omega]
          have hdec : q &&& (q - 1) < q := Nat.lt_of_le_of_lt Nat.and_le_right (by omega)
          have hnum := Lib.hid (numberOf_any (k : Int) q wr (by omega) (by omega) hql hq0 (hT.below (hbel'.mono (Nat.le_refl _))))
          have hpl := HP'.out.len
          have hstep := HP'.out.step (m := (k : Int) * 64 + (Lib.ctz 64 q : Nat)) (by omega) w1 (fun j h1 h2 => w4 j h1 h2)
          have HS := Lib.hid hstep
          have H5 := Lib.hid w5
          have hr1 := has_range w1
          clear w1 w4 w5 hstep hne hql
          generalize q &&& (q - 1) = q2 at *
          generalize Lib.ctz 64 q = c at *
          obtain ⟨hr0, hr1⟩ := hr1
          have hdi : (q2 : Int) < (q : Int) := by omega
          go_wp2_with fail
          refine hnum.out.mono ?_
          rintro e w1 ⟨rfl, rfl⟩
          clear hnum
          go_wp2_with (at_builtin; refine wpList_append_own _ rfl _ _ 36 rfl w.heap.size 3 i0 (.int .i64 0) 1 8 Tryd.underlying36 hi0 hz0 hz1 hz2 rfl (by decide) _ _ _ rfl (hown'.alloc _) ⟨wr.heap.size, 0, none⟩ 1 1 [.int .i64 ((k : Int) * 64 + c)] rfl rfl ?c1 ?c2 ?c3 ?c4 ?c5 ?_)
          case c1 =>
            intro j u hj
            match j, hj with
            | 0, hj => simp at hj; subst hj; simp [Addr.add]
          case c2 => intro u hu; simp at hu; subst hu; rfl
          case c3 => unfold maxLen; omega
          case c4 => omega
          case c5 => simp; omega
          intro v' w2 hown2 hgrow _
          have hB := own_base (hown'.alloc (.cells #[.int .i64 ((k : Int) * 64 + c)] 3)) (hbel'.alloc hb1 _) (Nat.le_refl _) (by simp; omega) hgrow
          clear hgrow hown'
          go_wp2
          go_roundw
          case rel =>
            refine ⟨c + 1, q2, L' ++ [(k : Int) * 64 + c], by omega, rfl, H5.out, ?_, ?_, hB⟩
            · simpa using hown2
            · rw [Hid, show (k : Int) * 64 + ((c + 1 : Nat) : Int) = (k : Int) * 64 + c + 1 from by omega]
              exact HS.out
          case measure => simp [intOf]; omega
    · go_wp2
      go_ret
      obtain ⟨A', c', rfl, _, _⟩ := own_slice hown
      exact ⟨L, A', c', rfl, Rd.of_own hown, hall.out L _ HP.out (by omega), hbel⟩

end Go.Proofs.YtepngkhepcjdfaaDoor
