/- TopMoved, the walk of the law: vectors that are moved by the same way are as far from each other; the middle of two is not farther to both than they are from each other. -/
import Derived.Test.YtnfcmkmjahplpaaMovedPlain
import Derived.BigRegion
import Derived.Deep.DeepCutAuto
namespace Go.Proofs.Ytnfcmkmjahplpaa
open Go.RowKit Go.Shelf

theorem make_i32 (n : Nat) (hn : n ≤ 4096) (w : World) : (Instr.makeSlice 24 (.int .i64 n) (.int .i64 n)).run Try.prog w =
    .ok (.slice (some ⟨w.heap.size, 0, none⟩) n n) (w.alloc (.cells ((List.replicate n (Value.int .i32 0)).toArray) 21)) := by
  obtain ⟨i4, hi4, hz4, hy4, hx4⟩ := info_parts info_i32
  have := run_make (P := Try.prog) w 24 21 i4 (.int .i32 0) Try.underlying24 hi4 hz4 .i64 .i64 n n (by omega) (by omega) (by rw [hx4]; omega) (by omega)
  rw [this]
  simp only [Int.toNat_natCast, hy4]
  congr 3
  exact Array.toList_inj.1 (by simp [toList_madeCells_one, Value.cells])
theorem zeros_arr (w : World) (n : Nat) : Arr (Value.int .i32) (w.alloc (.cells ((List.replicate n (Value.int .i32 0)).toArray) 21)) w.heap.size (List.replicate n 0) := by
  intro j z hj
  have e := World.alloc_heap_new w (.cells ((List.replicate n (Value.int .i32 0)).toArray) 21)
  unfold World.cell? World.frozen?
  simp only [e]
  rw [List.getElem?_replicate] at hj
  split at hj
  · rename_i h
    injection hj with hj
    subst hj
    simp [h]
  · cases hj

set_option maxRecDepth 100000 in
set_option maxHeartbeats 1000000 in
theorem TopMoved_walk (A : Option Addr) (a : List Int) (ca : Nat) (B : Option Addr) (b : List Int) (cb : Nat) (C : Option Addr) (v : List Int) (cv : Nat) (w : World) (hA : Vec w A a) (_ : a.length ≤ ca) (_ : ca ≤ 9223372036854775807) (hB : Vec w B b) (_ : b.length ≤ cb) (_ : cb ≤ 9223372036854775807)
    (hC : Vec w C v) (_ : v.length ≤ cv) (_ : cv ≤ 9223372036854775807) :
    Calls Try.prog 6 #[.slice A a.length ca, .slice B b.length cb, .slice C v.length cv] w fun e w' => e = .returned (.bool true) ∧ Below w.heap.size w w' := by
  have C1 := Lib.hid fun w' hb => Check_v (w' := w') hA hb ca a.length
  have C2 := Lib.hid fun w' hb => Check_v (w' := w') hB hb cb a.length
  have C3 := Lib.hid fun w' hb => Check_v (w' := w') hC hb cv a.length
  by_cases h1 : okV a a.length
  · by_cases h2 : okV b a.length
    · by_cases h3 : okV v a.length
      · rw [show chkN a a.length = 0 from by rw [chkN, if_pos h1]] at C1
        rw [show chkN b a.length = 0 from by rw [chkN, if_pos h2]] at C2
        rw [show chkN v a.length = 0 from by rw [chkN, if_pos h3]] at C3
        have hlb : b.length = a.length := by have := h2.2.2.1; omega
        have hlv : v.length = a.length := by have := h3.2.2.1; omega
        have hn : a.length ≤ 4096 := by have := h1.2.1; omega
        have HN := Lib.hid (moved_nums a b v h1 h2 h3)
        have hab := Lib.hid (ok_bounds h1)
        have hbb := Lib.hid (ok_bounds h2)
        have hvb := Lib.hid (ok_bounds h3)
        have hmk := make_i32 a.length hn
        have HA := Lib.hid hA
        have HB := Lib.hid hB
        have HC := Lib.hid hC
        clear h1 h2 h3 hA hB hC
        rw [hlb, hlv]
        rw [hlb] at C2
        rw [hlv] at C3
        obtain ⟨n, hna⟩ : ∃ n, a.length = n := ⟨_, rfl⟩
        rw [hna] at hlb hlv hn HN hmk C1 C2 C3 ⊢
        have H0 := Lib.hid hna
        have H1 := Lib.hid hlb
        have H2 := Lib.hid hlv
        clear hna hlb hlv
        go_enter Try.func6, Try.ntmps6
        go_upto_region 5 with (first
          | (go_at_call 16; refine Calls.mono (begins3_any _) ?_; rintro e w1 ⟨rfl, hb⟩)
          | (go_at_call 14; (first | with_reducible refine Calls.mono (C1.out _ (by assumption)) ?_ | with_reducible refine Calls.mono (C2.out _ (by assumption)) ?_ | with_reducible refine Calls.mono (C3.out _ (by assumption)) ?_); rintro e w1 ⟨rfl, hb⟩))
        go_cut [7, 8] (fun x y wx => ∃ X Y : Nat, x = .slice (some ⟨X, 0, none⟩) n n ∧ y = .slice (some ⟨Y, 0, none⟩) n n ∧ X ≠ Y ∧ w.heap.size ≤ X ∧ w.heap.size ≤ Y ∧
          Arr (Value.int .i32) wx X (movS n a v 0) ∧ Arr (Value.int .i32) wx Y (movS n b v 0) ∧ Below w.heap.size w wx ∧ X < wx.heap.size ∧ Y < wx.heap.size)
        case first =>
          have hsz := hb.size
          have hB2 : Below w.heap.size w (((w1.alloc (.cells (Array.replicate n (Value.int .i32 0)) 21)).alloc (.cells (Array.replicate n (Value.int .i32 0)) 21))).drew := ((hb.alloc hsz _).alloc (by simp; omega) _).trans (below_draws _ 1 _)
          have hX := zeros_arr w1 n
          have hY := zeros_arr (w1.alloc (.cells (Array.replicate n (Value.int .i32 0)) 21)) n
          rw [World.size_alloc] at hY
          simp only [List.toArray_replicate] at hX hY
          have hX2 := (hX.below ((Below.refl _ _).alloc (Nat.le_refl _) (.cells (Array.replicate n (Value.int .i32 0)) 21)) (by simp)).kept (grownBy_drew _) (fun r e => by cases e)
          have hY2 := hY.kept (grownBy_drew _) (fun r e => by cases e)
          have hs2 : (((w1.alloc (.cells (Array.replicate n (Value.int .i32 0)) 21)).alloc (.cells (Array.replicate n (Value.int .i32 0)) 21))).drew.heap.size = w1.heap.size + 1 + 1 := by
            show ((w1.alloc _).alloc _).heap.size = _
            simp
          have HX := Lib.hid hX2
          have HY := Lib.hid hY2
          have HS := Lib.hid hs2
          clear hX hY hX2 hY2 hs2
          go_region
          all_goals
            go_wp2
            go_meet
            rw [movS_zero, movS_zero]
            first
              | exact ⟨_, _, rfl, rfl, by omega, by omega, by omega, HX.out, HY.out, hB2, by rw [HS.out]; omega, by rw [HS.out]; omega⟩
              | exact ⟨_, _, rfl, rfl, by omega, by omega, by omega, HY.out, HX.out, hB2, by rw [HS.out]; omega, by rw [HS.out]; omega⟩
        case rest =>
          obtain ⟨X, Y, rfl, rfl, hXY, hXw, hYw, hAX, hAY, hB, hXs, hYs⟩ := hcut
          go_wp2
          go_loopw [41] (fun i wr => ∃ k : Nat, k ≤ n ∧ i = .int .i64 k ∧ Hid (Arr (Value.int .i32) wr X (movS n a v k)) ∧ Hid (Arr (Value.int .i32) wr Y (movS n b v k)) ∧ Below w.heap.size w wr ∧ X < wr.heap.size ∧ Y < wr.heap.size)
            (fun i _ => n - (intOf i).toNat)
          case atStart => exact ⟨0, Nat.zero_le _, rfl, hAX, hAY, hB, hXs, hYs⟩
          case round =>
            clear hAX hAY hB hXs hYs
            obtain ⟨k, hk, rfl, HX, HY, hbel, hXs, hYs⟩ := hrel
            by_cases hlt : k < n
            · have hla : k < a.length := by have := H0.out; omega
              have hlb : k < b.length := by have := H1.out; omega
              have hlv : k < v.length := by have := H2.out; omega
              obtain ⟨ba, oa, rfl, hba, hca⟩ := HA.out.rd k _ (cpt_lt hla)
              obtain ⟨bb, ob, rfl, hbb2, hcb⟩ := HB.out.rd k _ (cpt_lt hlb)
              obtain ⟨bv, ov, rfl, hbv, hcv⟩ := HC.out.rd k _ (cpt_lt hlv)
              have ha2 := hab.out k
              have hb2 := hbb.out k
              have hv2 := hvb.out k
              have hsX := Lib.hid ((HX.out.store k (cpt a k + cpt v k)).kept (grownBy_drew _) (fun r e => by cases e))
              rw [movS_succ n a v k hlt] at hsX
              obtain ⟨hcX, hfX⟩ := HX.out k _ (cpt_lt (by rw [movS_length]; exact hlt))
              have HQ := Lib.hid (movS_succ n b v k hlt)
              have hca1 := (hbel.cell (p := ⟨ba, oa + k, none⟩) hba).trans hca
              have hcv1 := (hbel.cell (p := ⟨bv, ov + k, none⟩) hbv).trans hcv
              have hbel1 : ∀ z, Below w.heap.size w (wr.setCell ⟨X, k, none⟩ z).drew := fun z => (hbel.setCell (p := ⟨X, k, none⟩) hXw z).trans (below_draws _ 1 _)
              have hkn : (k : Int) < (n : Int) := by omega
              have hk0 : (0 : Int) ≤ (k : Int) := by omega
              have hYk : ∀ z, (Hid (Arr (Value.int .i32) (wr.setCell ⟨X, k, none⟩ z).drew Y (movS n b v k))) := fun z => (HY.out.other hXY k z).kept (grownBy_drew _) (fun r e => by cases e)
              clear HX HY
              generalize cpt a k = p at *
              generalize cpt b k = q at *
              generalize cpt v k = r at *
              go_upto_region 9 with (fail)
              go_cut [] (fun wx => wx = (wr.setCell ⟨X, k, none⟩ (.int .i32 (p + r))).drew)
              case first =>
                go_region
                go_wp2
                go_meet
                rfl
              case rest =>
                subst hcut
                have hB3 := hbel1 (.int .i32 (p + r))
                have HY := hYk (.int .i32 (p + r))
                have hs9 : wr.heap.size ≤ (wr.setCell ⟨X, k, none⟩ (.int .i32 (p + r))).drew.heap.size := (((Below.refl 0 wr).setCell (p := ⟨X, k, none⟩) (Nat.zero_le _) (.int .i32 (p + r))).trans (below_draws _ 1 _)).size
                clear hca1 hcv1 hcX hfX hbel hYk hbel1
                generalize (wr.setCell ⟨X, k, none⟩ (.int .i32 (p + r))).drew = w3 at *
                have hcb3 := (hB3.cell (p := ⟨bb, ob + k, none⟩) hbb2).trans hcb
                have hcv3 := (hB3.cell (p := ⟨bv, ov + k, none⟩) hbv).trans hcv
                obtain ⟨hcY, hfY⟩ := HY.out k _ (cpt_lt (by rw [movS_length]; exact hlt))
                have hsY := Lib.hid (HY.out.store k (q + r))
                rw [HQ.out] at hsY
                have hX9 := Lib.hid ((hsX.out.other (fun e => hXY e.symm) k (.int .i32 (q + r))).kept (grownBy_drew _) (fun r e => by cases e))
                have hB9 := Lib.hid ((hB3.setCell (p := ⟨Y, k, none⟩) hYw (.int .i32 (q + r))).trans (below_draws _ 1 _))
                have hs10 : Hid (w3.heap.size ≤ (w3.setCell ⟨Y, k, none⟩ (.int .i32 (q + r))).drew.heap.size) := (((Below.refl 0 w3).setCell (p := ⟨Y, k, none⟩) (Nat.zero_le _) (.int .i32 (q + r))).trans (below_draws _ 1 _)).size
                go_wp2
                go_region
                go_wp2
                go_roundw
                case rel => exact ⟨k + 1, by omega, by go_num, hX9.out, hsY.out.kept (grownBy_drew _) (fun r e => by cases e), hB9.out, by have := hs10.out; omega, by have := hs10.out; omega⟩
                case measure => simp [intOf]; omega
            · obtain rfl : k = n := by omega
              have vX : Vec wr (some ⟨X, 0, none⟩) (movS k a v k) := ⟨HX.out.rd hXs, by rw [movS_length]; omega, movS_all hab.out hvb.out⟩
              have vY : Vec wr (some ⟨Y, 0, none⟩) (movS k b v k) := ⟨HY.out.rd hYs, by rw [movS_length]; omega, movS_all hbb.out hvb.out⟩
              have HM := Mean2_any wr wr (A, a, ca) (B, b, cb) (HA.out.below hbel) (HB.out.below hbel) (by show a.length ≤ 1000000; have := H0.out; omega) (Below.refl _ _)
              simp only [hdrV] at HM
              rw [H0.out, H1.out] at HM
              have hAl : Alike [a, b] := ⟨by simp, fun r hr => by
                have e0 := H0.out
                have e1 := H1.out
                simp at hr
                show r.length = a.length
                rcases hr with rfl | rfl <;> omega⟩
              have HAl := Lib.hid hAl
              have HMM := Lib.hid HM
              have hbel' := Lib.hid hbel
              have hvX := Lib.hid vX
              have hvY := Lib.hid vY
              clear HX HY hXs hYs HM hAl vX vY hmk hbel
              go_wp2_with fail
              refine Calls.mono HMM.out ?_
              rintro e wm ⟨hbm, _, h2⟩
              rcases h2 with ⟨hn, _⟩ | ⟨_, M, cm, rfl, hvM⟩
              · exact absurd HAl.out hn
              · change Vec wm M (meanL a.length [a, b]) at hvM
                rw [show ([a, b].headD []).length = k from H0.out]
                rw [H0.out] at hvM
                have vA := (HA.out.below hbel'.out).below hbm
                have vB := (HB.out.below hbel'.out).below hbm
                have Dxy := Lib.hid fun w' hb => Dist_v (w' := w') (hvX.out.below hbm) (hvY.out.below hbm) hb k k k k (by rw [movS_length]) (by rw [movS_length])
                have Dab := Lib.hid fun w' hb => Dist_v (w' := w') vA vB hb k k ca cb H0.out H1.out
                have Dma := Lib.hid fun w' hb => Dist_v (w' := w') hvM vA hb k k cm ca (by rw [meanL_length]) H0.out
                have Dmb := Lib.hid fun w' hb => Dist_v (w' := w') hvM vB hb k k cm cb (by rw [meanL_length]) H1.out
                obtain ⟨q, qa, qb, e1, e2, e3, e4, e5⟩ := HN.out
                rw [e2] at Dxy
                rw [e1] at Dab
                rw [e3] at Dma
                rw [e4] at Dmb
                have hBm := Lib.hid (Below.next hbel'.out hbm)
                have hb0 := Below.refl wm.heap.size wm
                clear e1 e2 e3 e4 HN vA vB hvM hvX hvY hbm HMM
                go_wp2_with (first
                  | (go_at_call 11; (first | with_reducible refine Calls.mono (Dxy.out _ (by assumption)) ?_ | with_reducible refine Calls.mono (Dab.out _ (by assumption)) ?_ | with_reducible refine Calls.mono (Dma.out _ (by assumption)) ?_ | with_reducible refine Calls.mono (Dmb.out _ (by assumption)) ?_); rintro e w1 ⟨rfl, hb⟩))
                go_ret
                exact ⟨rfl, Below.next hBm.out (by assumption)⟩
      · rw [show chkN a a.length = 0 from by rw [chkN, if_pos h1]] at C1
        rw [show chkN b a.length = 0 from by rw [chkN, if_pos h2]] at C2
        rw [show chkN v a.length = 1 from by rw [chkN, if_neg h3]] at C3
        clear h1 h2 h3 hA hB hC
        go_enter Try.func6, Try.ntmps6
        go_wp2_with (first
          | (go_at_call 16; refine Calls.mono (begins3_any _) ?_; rintro e w1 ⟨rfl, hb⟩)
          | (go_at_call 14; (first | with_reducible refine Calls.mono (C1.out _ (by assumption)) ?_ | with_reducible refine Calls.mono (C2.out _ (by assumption)) ?_ | with_reducible refine Calls.mono (C3.out _ (by assumption)) ?_); rintro e w1 ⟨rfl, hb⟩))
        go_ret
        exact ⟨rfl, by assumption⟩
    · rw [show chkN a a.length = 0 from by rw [chkN, if_pos h1]] at C1
      rw [show chkN b a.length = 1 from by rw [chkN, if_neg h2]] at C2
      clear h1 h2 hA hB hC
      go_enter Try.func6, Try.ntmps6
      go_wp2_with (first
        | (go_at_call 16; refine Calls.mono (begins3_any _) ?_; rintro e w1 ⟨rfl, hb⟩)
        | (go_at_call 14; (first | with_reducible refine Calls.mono (C1.out _ (by assumption)) ?_ | with_reducible refine Calls.mono (C2.out _ (by assumption)) ?_); rintro e w1 ⟨rfl, hb⟩))
      go_ret
      exact ⟨rfl, by assumption⟩
  · rw [show chkN a a.length = 1 from by rw [chkN, if_neg h1]] at C1
    clear h1 hA hB hC
    go_enter Try.func6, Try.ntmps6
    go_wp2_with (first
      | (go_at_call 16; refine Calls.mono (begins3_any _) ?_; rintro e w1 ⟨rfl, hb⟩)
      | (go_at_call 14; (first | with_reducible refine Calls.mono (C1.out _ (by assumption)) ?_); rintro e w1 ⟨rfl, hb⟩))
    go_ret
    exact ⟨rfl, by assumption⟩

end Go.Proofs.Ytnfcmkmjahplpaa
