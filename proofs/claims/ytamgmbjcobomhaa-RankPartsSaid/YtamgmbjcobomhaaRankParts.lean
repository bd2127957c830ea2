/- In parts (the law of 7.4), walked. -/
import Derived.Test.YtamgmbjcobomhaaRankLives
import Derived.Test.YtamgmbjcobomhaaPartsPlain
import Derived.Test.YtamgmbjcobomhaaAppAny
namespace Go.Proofs.Ytamgmbjcobomhaa
open Go.RowKit Go.Shelf Go.Sort

theorem rdH_next {X Y : World} {B : Option Addr} {L : List HitT} (h : RdH X X.heap.size B L) (hb : Below X.heap.size X Y) : RdH Y Y.heap.size B L := (h.below hb).more hb.size
theorem own_below {w w' : World} {base : Nat} {e : TypeId} {size n : Nat} {v : Value} {xs : List Value} (h : w.ownsRow base e size v n xs) (hb : Below w.heap.size w w') : w'.ownsRow base e size v n xs := by
  obtain ⟨h1, h2⟩ := h
  refine ⟨h1, ?_⟩
  rcases h2 with h2 | ⟨g, cap, cur, hv, hg, hh, hr⟩
  · exact .inl h2
  · exact .inr ⟨g, cap, cur, hv, hg, (hb.block g (Array.getElem?_eq_some_iff.1 hh).1).trans hh, hr⟩

set_option maxRecDepth 100000 in
set_option maxHeartbeats 8000000 in
theorem RankParts_walk (S : Option Addr) (zs : List SpotT) (cs : Nat) (T : Option Addr) (us : List SpotT) (ct : Nat) (k : Int) (A : Option Addr) (xs : List HitT) (ca : Nat) (B : Option Addr) (ys : List HitT) (cb : Nat) (w : World)
    (hS : RdS w w.heap.size S zs) (_hs1 : zs.length ≤ cs) (_hs2 : cs ≤ 9223372036854775807) (_hcS : S = none → cs = 0) (hT : RdS w w.heap.size T us) (_ht1 : us.length ≤ ct) (_ht2 : ct ≤ 9223372036854775807) (_hcT : T = none → ct = 0)
    (hA : RdH w w.heap.size A xs) (_ha1 : xs.length ≤ ca) (_ha2 : ca ≤ 9223372036854775807) (hcA : A = none → ca = 0) (hB : RdH w w.heap.size B ys) (_hb1 : ys.length ≤ cb) (_hb2 : cb ≤ 9223372036854775807) (hcB : B = none → cb = 0) :
    Calls Try.prog 5 #[.slice S zs.length cs, .slice T us.length ct, .int .i64 k, .slice A xs.length ca, .slice B ys.length cb] w fun e w' => e = .returned (.bool true) ∧ Below w.heap.size w w' := by
  by_cases hlong : 200 < zs.length ∨ 200 < us.length ∨ 200 < xs.length ∨ 200 < ys.length
  · have h3 : (200 : Int) < (zs.length : Int) ∨ (¬ (200 : Int) < (zs.length : Int) ∧ (200 : Int) < (us.length : Int)) ∨ (¬ (200 : Int) < (zs.length : Int) ∧ ¬ (200 : Int) < (us.length : Int) ∧ (200 : Int) < (xs.length : Int)) ∨
      (¬ (200 : Int) < (zs.length : Int) ∧ ¬ (200 : Int) < (us.length : Int) ∧ ¬ (200 : Int) < (xs.length : Int) ∧ (200 : Int) < (ys.length : Int)) := by omega
    clear hS hT hA hB hcA hcB hlong _hcS _hcT
    rcases h3 with h | ⟨h, h'⟩ | ⟨h, h', h''⟩ | ⟨h, h', h'', h'''⟩
    all_goals
      go_enter Try.func5, Try.ntmps5
      go_wp2_with fail
      refine (rank_lives_any _).mono ?_
      rintro e w1 ⟨rfl, hb⟩
      go_wp2
      go_ret
      exact ⟨rfl, hb⟩
  · have l1 : ¬ (200 : Int) < (zs.length : Int) := by omega
    have l2 : ¬ (200 : Int) < (us.length : Int) := by omega
    have l3 : ¬ (200 : Int) < (xs.length : Int) := by omega
    have l4 : ¬ (200 : Int) < (ys.length : Int) := by omega
    have n1 : zs.length ≤ 200 := by omega
    have n2 : us.length ≤ 200 := by omega
    have n3 : xs.length ≤ 200 := by omega
    have n4 : ys.length ≤ 200 := by omega
    have HS := Lib.hid hS
    have HT := Lib.hid hT
    have HA := Lib.hid hA
    have HB := Lib.hid hB
    have HCA := Lib.hid hcA
    have HCB := Lib.hid hcB
    have N := Lib.hid (And.intro n1 (And.intro n2 (And.intro n3 n4)))
    clear hS hT hA hB hcA hcB hlong n1 n2 n3 n4 _hcS _hcT
    obtain ⟨i0, hi0, hz0, hz1, hz2⟩ := info_parts info_spot
    obtain ⟨j0, hj0, hy0, hy1, hy2⟩ := info_parts info_hit
    go_enter Try.func5, Try.ntmps5
    go_wp2_with fail
    refine (rank_lives_any _).mono ?_
    rintro e w1 ⟨rfl, hb1⟩
    have HW := Lib.hid hb1
    clear hb1
    have hown0 := own_newS w1
    have hb1 := HW.out.alloc HW.out.size (.cells #[] 36)
    go_wp2_with (at_builtin; refine wpList_append_cells rfl _ _ 22 rfl w1.heap.size 36 i0 (.agg #[.int .u64 0, .int .u64 0, .int .i64 0]) 3 24 Try.underlying22 hi0 hz0 hz1 hz2 rfl (by decide) _ _ _ rfl hown0 S zs.length cs (cellsS zs) rfl (cellsS_len zs) HS.out.none_len ((HS.out.below hb1)).news_all cellsS_one ?c3 ?c4 ?c5 ?_)
    case c3 => have := N.out; unfold maxLen; omega
    case c4 => have := N.out; omega
    case c5 => simp
    intro v1 w2 hown1 hg1
    have hb2 := ownBase hown0 hb1 HW.out.size (by simp; have := HW.out.size; omega) hg1
    have HW2 := Lib.hid hb2
    have hsz2 : w1.heap.size ≤ w2.heap.size := by have := hg1.size; simp at this; omega
    clear hown0 hb1 hg1 hb2
    go_wp2_with (at_builtin; refine wpList_append_cells rfl _ _ 22 rfl w1.heap.size 36 i0 (.agg #[.int .u64 0, .int .u64 0, .int .i64 0]) 3 24 Try.underlying22 hi0 hz0 hz1 hz2 rfl (by decide) _ _ _ rfl hown1 T us.length ct (cellsS us) rfl (cellsS_len us) HT.out.none_len ((HT.out.below HW2.out)).news_all cellsS_one ?c3 ?c4 ?c5 ?_)
    case c3 => have := N.out; unfold maxLen; omega
    case c4 => have := N.out; omega
    case c5 => exact hsz2
    intro v2 w3 hown2 hg2
    have hb3 := ownBase hown1 HW2.out HW.out.size (by have := HW.out.size; omega) hg2
    obtain ⟨L, hL⟩ : ∃ L, zs ++ us = L := ⟨_, rfl⟩
    have hLl : L.length = zs.length + us.length := by rw [← hL, List.length_append]
    rw [← cellsS_app, hL, ← hLl] at hown2
    have HL := Lib.hid hL
    have HLL : Hid (L.length ≤ 400) := Lib.hid (by have := N.out; omega)
    obtain ⟨A3, c3, rfl, hc3, _⟩ := ownSlice hown2
    have HW3 := Lib.hid hb3
    have HR3 := Lib.hid (rdS_own hown2)
    clear hown1 hown2 hg2 hb3 HW HW2 hsz2 hL hLl hc3
    have hb4 := HW3.out.alloc HW3.out.size (.cells #[] 36)
    have HO := Lib.hid (own_newS w3)
    go_wp2_with fail
    refine (Least_any S zs cs k (by have := N.out; omega) _ ((HS.out.below hb4).more hb4.size)).mono ?_
    have hll := leastS_len zs k
    rintro e w4 ⟨A4, c4, rfl, hr4, hc4, hm4, hb5⟩
    obtain ⟨P, hPe⟩ : ∃ P, leastS zs k = P := ⟨_, rfl⟩
    rw [hPe] at hr4 hc4 hll
    rw [hPe]
    have HPe := Lib.hid hPe
    clear hPe
    have HP : Hid (P.length ≤ 200) := Lib.hid (by have := N.out; omega)
    have hbx := Below.next hb4 hb5
    have HW4 := Lib.hid hbx
    have HR4 := Lib.hid hr4
    have HX4 := Lib.hid (((Below.refl w3.heap.size w3).alloc (Nat.le_refl _) (.cells #[] 36)).trans (hb5.mono (by simp)))
    have hown0 := own_below HO.out hb5
    have hsz4 : w3.heap.size ≤ w4.heap.size := by have := hb5.size; simp at this; omega
    have hw3 : w.heap.size ≤ w3.heap.size := HW3.out.size
    clear HO hb4 hb5 hbx hr4 HW3 hll hc4 hm4
    go_wp2_with (at_builtin; refine wpList_append_cells rfl _ _ 22 rfl w3.heap.size 36 i0 (.agg #[.int .u64 0, .int .u64 0, .int .i64 0]) 3 24 Try.underlying22 hi0 hz0 hz1 hz2 rfl (by decide) _ _ _ rfl hown0 A4 P.length c4 (cellsS P) rfl (cellsS_len P) HR4.out.none_len HR4.out.news_all cellsS_one ?c3 ?c4 ?c5 ?_)
    case c3 => have := HP.out; unfold maxLen; omega
    case c4 => have := HP.out; omega
    case c5 => exact hsz4
    intro v5 w5 hown5 hg5
    have hown5' : w5.ownsRow w3.heap.size 36 3 v5 P.length (cellsS P) := by simpa using hown5
    have hb6 := ownBase hown0 HW4.out hw3 HW4.out.size hg5
    have HW5 := Lib.hid hb6
    have HO5 := Lib.hid hown5'
    have HX5 := Lib.hid (ownBase hown0 HX4.out (Nat.le_refl _) hsz4 hg5)
    have hsz5 : w3.heap.size ≤ w5.heap.size := HX5.out.size
    clear hown0 hown5 hown5' hg5 hb6 HW4 HX4 HR4 hsz4
    go_wp2_with fail
    refine (Least_any T us ct k (by have := N.out; omega) _ ((HT.out.below HW5.out).more HW5.out.size)).mono ?_
    have hll := leastS_len us k
    rintro e w6 ⟨A6, c6, rfl, hr6, hc6, hm6, hb7⟩
    obtain ⟨Q, hQe⟩ : ∃ Q, leastS us k = Q := ⟨_, rfl⟩
    rw [hQe] at hr6 hc6 hll
    rw [hQe]
    have HQe := Lib.hid hQe
    have HQ : Hid (Q.length ≤ 200) := Lib.hid (by have := N.out; omega)
    have HW6 := Lib.hid (Below.next HW5.out hb7)
    have HX6 := Lib.hid (HX5.out.trans (hb7.mono hsz5))
    have hown6 := own_below HO5.out hb7
    have hsz6 : w3.heap.size ≤ w6.heap.size := HX6.out.size
    have HR6 := Lib.hid hr6
    clear hQe hr6 hc6 hm6 hll hb7 HO5 HW5 HX5 hsz5
    go_wp2_with (at_builtin; refine wpList_append_cells rfl _ _ 22 rfl w3.heap.size 36 i0 (.agg #[.int .u64 0, .int .u64 0, .int .i64 0]) 3 24 Try.underlying22 hi0 hz0 hz1 hz2 rfl (by decide) _ _ _ rfl hown6 A6 Q.length c6 (cellsS Q) rfl (cellsS_len Q) HR6.out.none_len HR6.out.news_all cellsS_one ?c3 ?c4 ?c5 ?_)
    case c3 => have := HP.out; have := HQ.out; unfold maxLen; omega
    case c4 => have := HP.out; have := HQ.out; omega
    case c5 => exact hsz6
    intro v7 w7 hown7 hg7
    obtain ⟨R, hR⟩ : ∃ R, P ++ Q = R := ⟨_, rfl⟩
    have hRl : R.length = P.length + Q.length := by rw [← hR, List.length_append]
    rw [← cellsS_app, hR, ← hRl] at hown7
    have HRL : Hid (R.length ≤ 400) := Lib.hid (by have := HP.out; have := HQ.out; omega)
    have HG : Hid (leastS R k = leastS L k) := by rw [Hid, ← hR, ← HPe.out, ← HQe.out, ← HL.out]; exact (least_parts zs us k).symm
    obtain ⟨A7, c7, rfl, _, _⟩ := ownSlice hown7
    have HR7 := Lib.hid (rdS_own hown7)
    have HW7 := Lib.hid (ownBase hown6 HW6.out hw3 HW6.out.size hg7)
    have HX7 := Lib.hid (ownBase hown6 HX6.out (Nat.le_refl _) hsz6 hg7)
    clear hown6 hown7 hg7 hR hRl HW6 HX6 HR6 hsz6 HPe HQe HP HQ hw3
    go_wp2_with fail
    refine (Least_any A3 L c3 k (by have := HLL.out; omega) _ ((HR3.out.below HX7.out).more HX7.out.size)).mono ?_
    have hgl := leastS_len L k
    have HGL : Hid ((leastS L k).length ≤ 9223372036854775807) := Lib.hid (by have := HLL.out; omega)
    generalize leastS L k = G at *
    rintro e w8 ⟨A8, c8, rfl, hr8, _, _, hb8⟩
    have HW8 := Lib.hid (Below.next HW7.out hb8)
    have HR8 := Lib.hid hr8
    have HR7' := Lib.hid (rdS_later HR7.out hb8)
    clear HW7 HR7 hr8 hb8 HX7 HR3 hgl
    go_wp2_with fail
    refine (Least_any A7 R c7 k (by have := HRL.out; omega) _ HR7'.out).mono ?_
    rw [HG.out]
    rintro e w9 ⟨A9, c9, rfl, hr9, _, _, hb9⟩
    have HW9 := Lib.hid (Below.next HW8.out hb9)
    have HR9 := Lib.hid hr9
    have HR8' := Lib.hid (rdS_later HR8.out hb9)
    clear HW8 HR8 HR7' hr9 hb9 HG HRL HLL HL
    go_wp2_with fail
    refine (SameS_refl A8 A9 G c8 c9 _ HR8'.out HR9.out HGL.out).mono ?_
    rintro e w10 ⟨rfl, hd⟩
    have HW10 := Lib.hid (HW9.out.trans (hd.below _))
    clear HW9 hd HR8' HR9 HGL
    go_wp2_with fail
    refine (Merge_any A B xs ys ca cb _ ((HA.out.below HW10.out).more HW10.out.size) ((HB.out.below HW10.out).more HW10.out.size) (by have := N.out; omega) (by have := N.out; omega) HCA.out HCB.out).mono ?_
    have hml := merge_len xs ys
    have hmm := merge_mem xs ys
    have hmr := merge_rise xs ys
    have hmc := merge_comm xs ys
    generalize mergeH xs ys = M at *
    have HML : Hid (M.length ≤ 400) := Lib.hid (by have := N.out; omega)
    have HMM := Lib.hid hmm
    have HMR := Lib.hid hmr
    have HMC := Lib.hid hmc
    rintro e w11 ⟨A11, c11, rfl, hr11, hb11⟩
    have HW11 := Lib.hid (Below.next HW10.out hb11)
    have HRM := Lib.hid hr11
    clear HW10 hb11 hr11 hml hmm hmr hmc
    have howna0 := own_newH w11
    have hba0 := HW11.out.alloc HW11.out.size (.cells #[] 34)
    go_wp2_with (at_builtin; refine wpList_append_cells rfl _ _ 23 rfl w11.heap.size 34 j0 (.agg #[.int .u64 0, .int .u64 0]) 2 16 Try.underlying23 hj0 hy0 hy1 hy2 rfl (by decide) _ _ _ rfl howna0 A xs.length ca (cellsH xs) rfl (cellsH_len xs) HA.out.none_len ((HA.out.below hba0)).news_all cellsH_one ?c3 ?c4 ?c5 ?_)
    case c3 => have := N.out; unfold maxLen; omega
    case c4 => have := N.out; omega
    case c5 => simp
    intro va1 Wa1 howna1 hga1
    have HWa1 := Lib.hid (ownBase howna0 hba0 HW11.out.size (by simp; have := HW11.out.size; omega) hga1)
    have HXa1 := Lib.hid (ownBase howna0 ((Below.refl w11.heap.size w11).alloc (Nat.le_refl _) (.cells #[] 34)) (Nat.le_refl _) (by simp) hga1)
    have hsa1 : w11.heap.size ≤ Wa1.heap.size := HXa1.out.size
    clear howna0 hba0 hga1
    go_wp2_with (at_builtin; refine wpList_append_cells rfl _ _ 23 rfl w11.heap.size 34 j0 (.agg #[.int .u64 0, .int .u64 0]) 2 16 Try.underlying23 hj0 hy0 hy1 hy2 rfl (by decide) _ _ _ rfl howna1 B ys.length cb (cellsH ys) rfl (cellsH_len ys) HB.out.none_len ((HB.out.below HWa1.out)).news_all cellsH_one ?c3 ?c4 ?c5 ?_)
    case c3 => have := N.out; unfold maxLen; omega
    case c4 => have := N.out; omega
    case c5 => exact hsa1
    intro va2 Wa2 howna2 hga2
    have HWa2 := Lib.hid (ownBase howna1 HWa1.out HW11.out.size (by have := HWa1.out.size; omega) hga2)
    have HXa2 := Lib.hid (ownBase howna1 HXa1.out (Nat.le_refl _) hsa1 hga2)
    obtain ⟨XY, hXY⟩ : ∃ XY, xs ++ ys = XY := ⟨_, rfl⟩
    have hXYl : XY.length = xs.length + ys.length := by rw [← hXY, List.length_append]
    rw [← cellsH_app, hXY, ← hXYl] at howna2
    have HXY := Lib.hid hXY
    have HXYL : Hid (XY.length ≤ 400) := Lib.hid (by have := N.out; omega)
    obtain ⟨Aa, cca, rfl, _, _⟩ := ownSlice howna2
    have HRX := Lib.hid (RdH.of_own howna2)
    clear howna1 howna2 hga2 HWa1 HXa1 hsa1 hXY hXYl
    have HRM2 := Lib.hid ((HRM.out.below HXa2.out).more HXa2.out.size)
    clear HXa2 HRM
    go_wp2
    go_loopw [75] (fun i wr => ∃ q : Nat, q ≤ XY.length ∧ i = .int .i64 q ∧ Below Wa2.heap.size Wa2 wr) (fun i _ => XY.length - (intOf i).toNat)
    case atStart => exact ⟨0, Nat.zero_le _, rfl, Below.refl _ _⟩
    case round =>
      obtain ⟨q, hq, rfl, hbq⟩ := hrel
      by_cases hlq : q < XY.length
      · obtain ⟨bh, oh, he, hbhl, h0, h1⟩ := (HRX.out.below hbq) q _ (List.getElem?_eq_getElem hlq)
        subst he
        have hbhw : bh < wr.heap.size := Nat.lt_of_lt_of_le hbhl hbq.size
        have HAS : Hid (hasH M XY[q] = true) := by rw [Hid]; unfold hasH; rw [decide_eq_true_iff, HMM.out, HXY.out]; exact List.getElem_mem hlq
        generalize XY[q] = hh at *
        obtain ⟨ha, hb⟩ := hh
        simp only at h0 h1
        have hql : (q : Int) < (XY.length : Int) := by omega
        have hq0 : (0 : Int) ≤ (q : Int) := by omega
        have hq1 : (q : Int).toNat = q := Int.toNat_natCast q
        have hXYL2 := HXYL.out
        have HBN := Lib.hid (hbq.alloc hbq.size (.cells #[.int .u64 ha, .int .u64 hb] 34))
        have x0 : Hid ((wr.alloc (.cells #[.int .u64 ha, .int .u64 hb] 34)).cell? ⟨wr.heap.size, 0, none⟩ = some (.int .u64 ha)) := by rw [Hid]; go_cell
        have x1 : Hid ((wr.alloc (.cells #[.int .u64 ha, .int .u64 hb] 34)).cell? ⟨wr.heap.size, 1, none⟩ = some (.int .u64 hb)) := by rw [Hid]; go_cell
        have hHX : wr.heap.size < (wr.alloc (.cells #[.int .u64 ha, .int .u64 hb] 34)).heap.size := by simp
        have HRN := Lib.hid ((HRM2.out.below HBN.out).more HBN.out.size)
        go_wp2
        generalize wr.alloc (.cells #[.int .u64 ha, .int .u64 hb] 34) = X at *
        generalize wr.heap.size = H at *
        clear h0 h1 hbhl hbhw
        go_loopw [16, 81] (fun b i wv => ∃ j : Nat, j ≤ M.length ∧ i = .int .i64 j ∧ b = .bool (hasH (M.take j) (ha, hb)) ∧ Below X.heap.size X wv) (fun _ i _ => M.length - (intOf i).toNat)
        case atStart => exact ⟨0, Nat.zero_le _, rfl, by rw [List.take_zero, hasH_nil], Below.refl _ _⟩
        case round =>
          obtain ⟨j, hj, rfl, rfl, hbi⟩ := hrel
          by_cases hlj : j < M.length
          · obtain ⟨bb, oo, he, hbl, m0, m1⟩ := (HRN.out.below hbi) j _ (List.getElem?_eq_getElem hlj)
            subst he
            have hbw : bb < wr.heap.size := Nat.lt_of_lt_of_le hbl hbi.size
            have y0 := fun O => (World.cell?_alloc_lt wr O ⟨H, 0, none⟩ (Nat.lt_of_lt_of_le hHX hbi.size)).trans ((hbi.cell (p := ⟨H, 0, none⟩) hHX).trans x0.out)
            have y1 := fun O => (World.cell?_alloc_lt wr O ⟨H, 1, none⟩ (Nat.lt_of_lt_of_le hHX hbi.size)).trans ((hbi.cell (p := ⟨H, 1, none⟩) hHX).trans x1.out)
            have HO := Lib.hid (fun e => hasH_old (M := M) (j := j) (h := (ha, hb)) e hlj)
            have HN := Lib.hid (fun e => hasH_new (M := M) (j := j) (h := (ha, hb)) hlj e)
            have HQ := Lib.hid (fun e => hasH_not (M := M) (j := j) (h := (ha, hb)) e hlj)
            generalize M[j] = g at *
            obtain ⟨ga, gb⟩ := g
            simp only at m0 m1
            have hjl : (j : Int) < (M.length : Int) := by omega
            have hj0 : (0 : Int) ≤ (j : Int) := by omega
            have hj1 : (j : Int).toNat = j := Int.toNat_natCast j
            have hML2 := HML.out
            have hbn := hbi.alloc hbi.size (.cells #[.int .u64 ga, .int .u64 gb] 34)
            cases ht : hasH (M.take j) (ha, hb)
            · have HT := Lib.hid ht
              clear ht
              by_cases hs : ga = ha ∧ gb = hb
              · obtain ⟨rfl, rfl⟩ := hs
                go_wp2
                go_roundw
                case rel => exact ⟨j + 1, by omega, by go_num, by rw [HN.out rfl], hbn⟩
                case measure => simp [intOf]; omega
              · have hne : ¬ ((ga, gb) : HitT) = (ha, hb) := fun e => hs (by injection e with e1 e2; exact ⟨e1, e2⟩)
                have HR2 := Lib.hid (HQ.out HT.out hne)
                have hways : (¬ ga = ha) ∨ (ga = ha ∧ ¬ gb = hb) := by omega
                clear hs hne
                rcases hways with hne | ⟨rfl, hne⟩
                · go_wp2
                  go_roundw
                  case rel => exact ⟨j + 1, by omega, by go_num, by rw [HR2.out], hbn⟩
                  case measure => simp [intOf]; omega
                · go_wp2
                  go_roundw
                  case rel => exact ⟨j + 1, by omega, by go_num, by rw [HR2.out], hbn⟩
                  case measure => simp [intOf]; omega
            · have HT := Lib.hid ht
              clear ht
              go_wp2
              go_roundw
              case rel => exact ⟨j + 1, by omega, by go_num, by rw [HO.out HT.out], hbn⟩
              case measure => simp [intOf]; omega
          · obtain rfl : j = M.length := by omega
            rw [List.take_length, HAS.out]
            go_wp2
            go_roundw
            case rel => exact ⟨q + 1, by omega, by go_num, Below.next HBN.out hbi⟩
            case measure => simp [intOf]; omega
      · obtain ⟨W0, rfl⟩ : ∃ W0 : World, W0 = wr := ⟨_, rfl⟩
        have HWr := Lib.hid (HWa2.out.trans (hbq.mono HWa2.out.size))
        have HRM3 := Lib.hid ((HRM2.out.below hbq).more hbq.size)
        clear HWa2 HRM2 hbq HRX HXYL HXY
        go_wp2
        go_loopw [97] (fun i wv => ∃ q : Nat, q ≤ M.length ∧ i = .int .i64 q ∧ Below W0.heap.size W0 wv) (fun i _ => M.length - (intOf i).toNat)
        case atStart => exact ⟨0, Nat.zero_le _, rfl, Below.refl _ _⟩
        case round =>
          clear hlq hq
          obtain ⟨q, hq, rfl, hbq⟩ := hrel
          by_cases hlq : q < M.length
          · obtain ⟨bh, oh, he, hbhl, h0, h1⟩ := (HRM3.out.below hbq) q _ (List.getElem?_eq_getElem hlq)
            subst he
            have hbhw : bh < wr.heap.size := Nat.lt_of_lt_of_le hbhl hbq.size
            have HAS0 : Hid (M[q] ∈ xs ++ ys) := (HMM.out _).1 (List.getElem_mem hlq)
            generalize M[q] = hh at *
            obtain ⟨ha, hb⟩ := hh
            simp only at h0 h1
            have hql : (q : Int) < (M.length : Int) := by omega
            have hq0 : (0 : Int) ≤ (q : Int) := by omega
            have hq1 : (q : Int).toNat = q := Int.toNat_natCast q
            have hML2 := HML.out
            have HBN := Lib.hid (hbq.alloc hbq.size (.cells #[.int .u64 ha, .int .u64 hb] 34))
            have HWx := Lib.hid (HWr.out.trans (HBN.out.mono HWr.out.size))
            have x0 : Hid ((wr.alloc (.cells #[.int .u64 ha, .int .u64 hb] 34)).cell? ⟨wr.heap.size, 0, none⟩ = some (.int .u64 ha)) := by rw [Hid]; go_cell
            have x1 : Hid ((wr.alloc (.cells #[.int .u64 ha, .int .u64 hb] 34)).cell? ⟨wr.heap.size, 1, none⟩ = some (.int .u64 hb)) := by rw [Hid]; go_cell
            have hHX : wr.heap.size < (wr.alloc (.cells #[.int .u64 ha, .int .u64 hb] 34)).heap.size := by simp
            go_upto_region 26 with (fail)
            generalize wr.alloc (.cells #[.int .u64 ha, .int .u64 hb] 34) = X0 at *
            generalize wr.heap.size = H at *
            clear h0 h1 hbhl hbhw
            have hownb0 := own_newH X0
            have hbb0 := HWx.out.alloc HWx.out.size (.cells #[] 34)
            go_wp2_with (at_builtin; refine wpList_append_cells rfl _ _ 23 rfl X0.heap.size 34 j0 (.agg #[.int .u64 0, .int .u64 0]) 2 16 Try.underlying23 hj0 hy0 hy1 hy2 rfl (by decide) _ _ _ rfl hownb0 A xs.length ca (cellsH xs) rfl (cellsH_len xs) HA.out.none_len ((HA.out.below hbb0)).news_all cellsH_one ?c3 ?c4 ?c5 ?_)
            case c3 => have := N.out; unfold maxLen; omega
            case c4 => have := N.out; omega
            case c5 => simp
            intro vb1 Wb1 hownb1 hgb1
            have HWb1 := Lib.hid (ownBase hownb0 hbb0 HWx.out.size (by simp; have := HWx.out.size; omega) hgb1)
            have HXb1 := Lib.hid (ownBase hownb0 ((Below.refl X0.heap.size X0).alloc (Nat.le_refl _) (.cells #[] 34)) (Nat.le_refl _) (by simp) hgb1)
            have hsb1 : X0.heap.size ≤ Wb1.heap.size := HXb1.out.size
            clear hownb0 hbb0 hgb1
            go_wp2_with (at_builtin; refine wpList_append_cells rfl _ _ 23 rfl X0.heap.size 34 j0 (.agg #[.int .u64 0, .int .u64 0]) 2 16 Try.underlying23 hj0 hy0 hy1 hy2 rfl (by decide) _ _ _ rfl hownb1 B ys.length cb (cellsH ys) rfl (cellsH_len ys) HB.out.none_len ((HB.out.below HWb1.out)).news_all cellsH_one ?c3 ?c4 ?c5 ?_)
            case c3 => have := N.out; unfold maxLen; omega
            case c4 => have := N.out; omega
            case c5 => exact hsb1
            intro vb2 Wb2 hownb2 hgb2
            have HXb2 := Lib.hid (ownBase hownb1 HXb1.out (Nat.le_refl _) hsb1 hgb2)
            obtain ⟨XY, hXY⟩ : ∃ XY, xs ++ ys = XY := ⟨_, rfl⟩
            have hXYl : XY.length = xs.length + ys.length := by rw [← hXY, List.length_append]
            rw [← cellsH_app, hXY, ← hXYl] at hownb2
            have HXY := Lib.hid hXY
            have HXYL : Hid (XY.length ≤ 400) := Lib.hid (by have := N.out; omega)
            obtain ⟨Ab, ccb, rfl, _, _⟩ := ownSlice hownb2
            have HRX := Lib.hid (RdH.of_own hownb2)
            clear hownb1 hownb2 hgb2 HWb1 HXb1 hsb1 hXY hXYl

            have x0' := Lib.hid ((HXb2.out.cell (p := ⟨H, 0, none⟩) hHX).trans x0.out)
            have x1' := Lib.hid ((HXb2.out.cell (p := ⟨H, 1, none⟩) hHX).trans x1.out)
            have HBN2 := Lib.hid (Below.next HBN.out HXb2.out)
            have hHX' : H < Wb2.heap.size := Nat.lt_of_lt_of_le hHX HXb2.out.size
            have HAS : Hid (hasH XY (ha, hb) = true) := by rw [Hid]; unfold hasH; rw [decide_eq_true_iff, ← HXY.out]; exact HAS0.out
            clear x0 x1 HBN HWx hHX HXb2 HXY HAS0
            go_wp2
            go_loopw [21, 107] (fun b i wv => ∃ j : Nat, j ≤ XY.length ∧ i = .int .i64 j ∧ b = .bool (hasH (XY.take j) (ha, hb)) ∧ Below Wb2.heap.size Wb2 wv) (fun _ i _ => XY.length - (intOf i).toNat)
            case atStart => exact ⟨0, Nat.zero_le _, rfl, by rw [List.take_zero, hasH_nil], Below.refl _ _⟩
            case round =>
              obtain ⟨j, hj, rfl, rfl, hbi⟩ := hrel
              by_cases hlj : j < XY.length
              · obtain ⟨bb, oo, he, hbl, m0, m1⟩ := (HRX.out.below hbi) j _ (List.getElem?_eq_getElem hlj)
                subst he
                have hbw : bb < wr.heap.size := Nat.lt_of_lt_of_le hbl hbi.size
                have y0 := fun O => (World.cell?_alloc_lt wr O ⟨H, 0, none⟩ (Nat.lt_of_lt_of_le hHX' hbi.size)).trans ((hbi.cell (p := ⟨H, 0, none⟩) hHX').trans x0'.out)
                have y1 := fun O => (World.cell?_alloc_lt wr O ⟨H, 1, none⟩ (Nat.lt_of_lt_of_le hHX' hbi.size)).trans ((hbi.cell (p := ⟨H, 1, none⟩) hHX').trans x1'.out)
                have HO := Lib.hid (fun e => hasH_old (M := XY) (j := j) (h := (ha, hb)) e hlj)
                have HN := Lib.hid (fun e => hasH_new (M := XY) (j := j) (h := (ha, hb)) hlj e)
                have HQ := Lib.hid (fun e => hasH_not (M := XY) (j := j) (h := (ha, hb)) e hlj)
                generalize XY[j] = g at *
                obtain ⟨ga, gb⟩ := g
                simp only at m0 m1
                have hjl : (j : Int) < (XY.length : Int) := by omega
                have hj0 : (0 : Int) ≤ (j : Int) := by omega
                have hj1 : (j : Int).toNat = j := Int.toNat_natCast j
                have hML2 := HXYL.out
                have hbn := hbi.alloc hbi.size (.cells #[.int .u64 ga, .int .u64 gb] 34)
                cases ht : hasH (XY.take j) (ha, hb)
                · have HT := Lib.hid ht
                  clear ht
                  by_cases hs : ga = ha ∧ gb = hb
                  · obtain ⟨rfl, rfl⟩ := hs
                    go_wp2
                    go_roundw
                    case rel => exact ⟨j + 1, by omega, by go_num, by rw [HN.out rfl], hbn⟩
                    case measure => simp [intOf]; omega
                  · have hne : ¬ ((ga, gb) : HitT) = (ha, hb) := fun e => hs (by injection e with e1 e2; exact ⟨e1, e2⟩)
                    have HR2 := Lib.hid (HQ.out HT.out hne)
                    have hways : (¬ ga = ha) ∨ (ga = ha ∧ ¬ gb = hb) := by omega
                    clear hs hne
                    rcases hways with hne | ⟨rfl, hne⟩
                    · go_wp2
                      go_roundw
                      case rel => exact ⟨j + 1, by omega, by go_num, by rw [HR2.out], hbn⟩
                      case measure => simp [intOf]; omega
                    · go_wp2
                      go_roundw
                      case rel => exact ⟨j + 1, by omega, by go_num, by rw [HR2.out], hbn⟩
                      case measure => simp [intOf]; omega
                · have HT := Lib.hid ht
                  clear ht
                  go_wp2
                  go_roundw
                  case rel => exact ⟨j + 1, by omega, by go_num, by rw [HO.out HT.out], hbn⟩
                  case measure => simp [intOf]; omega
              · obtain rfl : j = XY.length := by omega
                rw [List.take_length, HAS.out]
                go_wp2
                go_roundw
                case rel => exact ⟨q + 1, by omega, by go_num, Below.next HBN2.out hbi⟩
                case measure => simp [intOf]; omega
          · have HWs := Lib.hid (HWr.out.trans (hbq.mono HWr.out.size))
            have HRM4 := Lib.hid ((HRM3.out.below hbq).more hbq.size)
            have hML2 := HML.out
            clear HWr HRM3 hbq
            go_wp2_with fail
            refine (Rising_any A11 M c11 _ HRM4.out (by omega)).mono ?_
            rw [HMR.out]
            rintro e w12 ⟨rfl, hg⟩
            have HW12 := Lib.hid (Below.next HWs.out hg.below)
            have HRM5 := Lib.hid (rdH_next HRM4.out hg.below)
            clear HWs HRM4 hg
            go_wp2_with fail
            refine (Merge_any B A ys xs cb ca _ ((HB.out.below HW12.out).more HW12.out.size) ((HA.out.below HW12.out).more HW12.out.size) (by have := N.out; omega) (by have := N.out; omega) HCB.out HCA.out).mono ?_
            rw [← HMC.out]
            rintro e w13 ⟨A13, c13, rfl, hr13, hb13⟩
            have HW13 := Lib.hid (Below.next HW12.out hb13)
            have HR13 := Lib.hid hr13
            have HRM6 := Lib.hid (rdH_next HRM5.out hb13)
            clear HW12 HRM5 hb13 hr13
            go_wp2_with fail
            refine (SameH_refl A11 A13 M c11 c13 _ HRM6.out HR13.out (by omega)).mono ?_
            rintro e w14 ⟨rfl, hd⟩
            have HW14 := Lib.hid (HW13.out.trans (hd.below _))
            clear HW13 hd HRM6 HR13
            go_wp2
            go_ret
            exact ⟨rfl, HW14.out⟩

end Go.Proofs.Ytamgmbjcobomhaa
