/- The best of all items, the best of the best of their halves, and a queue's first ones (TopHalves), walked. -/
import Derived.Test.YtglbefkfbnaijaaTopSpots
import Derived.Test.YtglbefkfbnaijaaTopBegins
import Derived.Test.YtglbefkfbnaijaaSpotsOwn
namespace Go.Proofs.Ytglbefkfbnaijaa
open Go.RowKit Go.Shelf Go.Sort

theorem keep_two (m : Nat) (a b : List SpotT) : keepS m (keepS m a ++ keepS m b) = keepS m (a ++ b) := by
  have := least_parts a b (m : Int)
  rw [keep_least, keep_least, keep_least, keep_least] at this
  exact this.symm
theorem keep_first {most : Int} {S : List SpotT} {K : Nat} (hm : ¬ 200 < most) (hK : min (max most 0) (S.length : Int) = (K : Int)) : keepS (bestN most) S = (sortS S).take K := by
  unfold keepS bestN
  have hl := sortS_len S
  by_cases h : (min (max most 0) 4096).toNat ≤ S.length
  · congr 1
    omega
  · rw [List.take_of_length_le (by omega), List.take_of_length_le (by omega)]
theorem least_first {most : Int} {S : List SpotT} {K : Nat} (hK : min (max most 0) (S.length : Int) = (K : Int)) : leastS S most = (sortS S).take K := by
  unfold leastS firstN
  congr 1
  omega
theorem take_cut {S : List SpotT} {c k : Nat} (hk : k < S.length) : (k < c → S.take (min (k + 1) c) = S.take (min k c) ++ [S[k]] ∧ (S.take (k + 1)).drop c = (S.take k).drop c) ∧ (¬ k < c → S.take (min (k + 1) c) = S.take (min k c) ∧ (S.take (k + 1)).drop c = (S.take k).drop c ++ [S[k]]) := by
  constructor
  · intro h
    rw [Nat.min_eq_left (show k + 1 ≤ c by omega), Nat.min_eq_left (show k ≤ c by omega), List.take_succ_eq_append_getElem hk]
    refine ⟨rfl, ?_⟩
    rw [List.drop_eq_nil_of_le (by simp; omega), List.drop_eq_nil_of_le (by simp; omega)]
  · intro h
    rw [Nat.min_eq_right (show c ≤ k + 1 by omega), Nat.min_eq_right (show c ≤ k by omega)]
    refine ⟨rfl, ?_⟩
    rw [List.take_succ_eq_append_getElem hk, List.drop_append_of_le_length (by simp; omega)]

set_option maxRecDepth 100000 in
set_option maxHeartbeats 16000000 in
theorem TopHalves_walk (Q : Option Addr) (q : List Int) (cq : Nat) (A : Option Addr) (its : List ItT) (ca : Nat) (cut most : Int) (w : World) (hQ : VecB w w.heap.size Q q) (hI : ItemsAt w w.heap.size A its) (_hil : its.length ≤ 9223372036854775807) :
    Calls Try.prog 11 #[.slice Q q.length cq, .slice A its.length ca, .int .i64 cut, .int .i64 most] w fun e w' => e = .returned (.bool true) ∧ Below w.heap.size w w' := by
  by_cases hall : its.length ≤ 60 ∧ 0 ≤ cut ∧ cut ≤ (its.length : Int) ∧ most ≤ 200
  case neg =>
    have h4 : (60 : Int) < (its.length : Int) ∨ (¬ (60 : Int) < (its.length : Int) ∧ (cut < 0 ∨ (¬ cut < 0 ∧ ((its.length : Int) < cut ∨ (¬ (its.length : Int) < cut ∧ (200 : Int) < most))))) := by omega
    clear hall hQ hI
    rcases h4 with h1 | ⟨h1, h2 | ⟨h2, h3 | ⟨h3, h4⟩⟩⟩ <;>
    · go_enter Try.func11, Try.ntmps11
      go_wp2_with fail
      refine (begins4_any w).mono ?_
      rintro e w1 ⟨rfl, hb⟩
      go_wp2
      all_goals
        go_ret
        exact ⟨rfl, hb⟩
  case pos =>
    obtain ⟨n1, n2, n3, n4⟩ := hall
    obtain ⟨c, rfl⟩ : ∃ c : Nat, cut = (c : Int) := ⟨cut.toNat, by omega⟩
    have hcn : c ≤ its.length := by omega
    have l1 : ¬ (60 : Int) < (its.length : Int) := by omega
    have l2 : ¬ (c : Int) < 0 := by omega
    have l3 : ¬ (its.length : Int) < (c : Int) := by omega
    have l4 : ¬ (200 : Int) < most := by omega
    have N := Lib.hid (And.intro n1 hcn)
    have HL4 := Lib.hid l4
    have HQ := Lib.hid hQ
    have HI := Lib.hid hI
    clear n1 n2 n3 n4 hcn hQ hI
    obtain ⟨i0, hi0, hz0, hz1, hz2⟩ := info_parts info_spot
    go_enter Try.func11, Try.ntmps11
    go_wp2_with fail
    refine (begins4_any w).mono ?_
    rintro e w1 ⟨rfl, hb1⟩
    have HB1 := Lib.hid hb1
    clear hb1
    go_wp2_with fail
    refine (spots_any Q q cq A its ca w1 ((HQ.out.below HB1.out).more HB1.out.size) ((HI.out.below HB1.out).more HB1.out.size) (by have := N.out.1; omega)).mono ?_
    clear l1 l2 l3 l4 HQ HI
    obtain ⟨S, hS⟩ : ∃ S, spotsL q its = S := ⟨_, rfl⟩
    obtain ⟨n, hn⟩ : ∃ n, its.length = n := ⟨_, rfl⟩
    have hSn : S.length = n := by rw [← hS, ← hn, spotsL_len]
    rw [hS]
    rw [hn] at N
    clear hS hn
    subst hSn
    rintro e w2 ⟨AS, cS, rfl, hr2, -, -, hb2, -⟩
    have HS := Lib.hid hr2
    have HB2 := Lib.hid (HB1.out.trans (hb2.mono HB1.out.size))
    clear hr2 hb2 HB1
    go_wp2_with fail
    refine (bNew_any most w2).mono ?_
    rintro e w3 ⟨b0, rfl, r1, r2, r3, r4⟩
    have F1 := Lib.hid ((Fam.nil (P := fun k => k < w2.heap.size) w2 (fun _ h => h)).newB r1 r2 r3 r4)
    clear r1 r2 r3 r4
    go_wp2_with fail
    refine (bNew_any most w3).mono ?_
    rintro e w4 ⟨b1, rfl, r1, r2, r3, r4⟩
    have F2 := Lib.hid (F1.out.newB r1 r2 r3 r4)
    clear r1 r2 r3 r4 F1
    go_wp2_with fail
    refine (bNew_any most w4).mono ?_
    rintro e w5 ⟨b2, rfl, r1, r2, r3, r4⟩
    have F3 := Lib.hid (F2.out.newB r1 r2 r3 r4)
    clear r1 r2 r3 r4 F2
    go_wp2_with fail
    refine (bNew_any most w5).mono ?_
    rintro e w6 ⟨b3, rfl, r1, r2, r3, r4⟩
    have F4 := Lib.hid (F3.out.newB r1 r2 r3 r4)
    clear r1 r2 r3 r4 F3
    go_wp2_with fail
    refine (qNew_any w6).mono ?_
    rintro e w7 ⟨bq, rfl, r1, r2, r3⟩
    have HF := Lib.hid (show Fam (fun k => k < w2.heap.size) w2 w7 [⟨b0, some (bestN most), []⟩, ⟨b1, some (bestN most), []⟩, ⟨b2, some (bestN most), []⟩, ⟨b3, some (bestN most), []⟩, ⟨bq, none, []⟩] from F4.out.newQ r1 r2 r3)
    clear r1 r2 r3 F4
    obtain ⟨K, hK⟩ : ∃ K : Nat, min (max most 0) (S.length : Int) = (K : Int) := ⟨(min (max most 0) (S.length : Int)).toNat, by omega⟩
    have HK := Lib.hid hK
    have HKn : Hid (K ≤ S.length) := by rw [Hid]; omega
    have HK1 := Lib.hid (keep_first (by have := HL4.out; omega) hK)
    have HK2 := Lib.hid (least_first hK)
    generalize bestN most = m at *
    clear hK HL4
    go_wp2
    go_loopw [73] (fun i wr => ∃ k : Nat, k ≤ S.length ∧ i = .int .i64 k ∧ Hid (Fam (fun b => b < w2.heap.size) w2 wr [⟨b0, some m, S.take k⟩, ⟨b1, some m, S.take (min k c)⟩, ⟨b2, some m, (S.take k).drop c⟩, ⟨b3, some m, []⟩, ⟨bq, none, S.take k⟩])) (fun i _ => S.length - (intOf i).toNat)
    case atStart => exact ⟨0, Nat.zero_le _, rfl, by rw [Nat.zero_min, List.take_zero, List.drop_nil]; exact HF.out⟩
    case round =>
      clear HF
      obtain ⟨k, hk, rfl, HF⟩ := hrel
      by_cases hlt : k < S.length
      · have hS60 := N.out.1
        have hR := HS.out.below HF.out.below
        obtain ⟨b, off, rfl, hb, h0, h1, h2⟩ := hR k _ (List.getElem?_eq_getElem hlt)
        have HT : Hid (S.take (k + 1) = S.take k ++ [S[k]]) := List.take_succ_eq_append_getElem hlt
        have HC := Lib.hid (take_cut (c := c) hlt)
        clear hR
        generalize S[k] = z at *
        obtain ⟨⟨za, zb⟩, zc⟩ := z
        simp only at h0 h1 h2
        have hkl : (k : Int) < (S.length : Int) := by omega
        have hk0 : (0 : Int) ≤ (k : Int) := by omega
        have hkn : ((k : Int)).toNat = k := Int.toNat_natCast k
        have HD := Lib.hid (SpC.new wr za zb zc)
        have HF1 := Lib.hid (HF.out.alloc (.cells #[.int .u64 za, .int .u64 zb, .int .i64 zc] 33))
        clear HF
        go_upto_region 13 with (fail)
        generalize wr.alloc (.cells #[.int .u64 za, .int .u64 zb, .int .i64 zc] 33) = X1 at *
        generalize wr.heap.size = D at *
        clear h0 h1 h2
        obtain ⟨d0, d1, d2⟩ := HD.out
        simp only at d0 d1 d2
        go_wp2_with fail
        refine (Fam.offer HF1.out (i := 0) (L := S.take k) (m := m) (b := b0) rfl ((za, zb), zc) (by have := N.out; rw [List.length_take]; omega)).mono ?_
        rintro e X2 ⟨rfl, hf, hs⟩
        have HF2 := Lib.hid hf
        have HD2 := Lib.hid (HD.out.same (hs D (.inr rfl)))
        clear hf hs d0 d1 d2 HD HF1
        obtain ⟨d0, d1, d2⟩ := HD2.out
        simp only at d0 d1 d2
        go_wp2_with fail
        refine (Fam.push HF2.out (i := 4) (L := S.take k) (b := bq) rfl ((za, zb), zc) (by have := N.out; rw [List.length_take]; omega)).mono ?_
        rintro e X3 ⟨rfl, hf, hs⟩
        have HF3 := Lib.hid hf
        have HD3 := Lib.hid (HD2.out.same (hs D (.inr rfl)))
        clear hf hs d0 d1 d2 HD2 HF2
        obtain ⟨d0, d1, d2⟩ := HD3.out
        simp only at d0 d1 d2
        by_cases hkc : k < c
        · have hkci : (k : Int) < (c : Int) := by omega
          have HC1 := Lib.hid (HC.out.1 hkc)
          clear HC hkc
          go_wp2_with fail
          refine (Fam.offer HF3.out (i := 1) (L := S.take (min k c)) (m := m) (b := b1) rfl ((za, zb), zc) (by have := N.out; rw [List.length_take]; omega)).mono ?_
          rintro e X4 ⟨rfl, hf, hs⟩
          have HF4 := Lib.hid (hf.less (P' := fun b => b < w2.heap.size) (fun _ h => .inl h))
          clear hf hs HF3 d0 d1 d2 HD3
          go_wp2
          go_roundw
          case rel => exact ⟨k + 1, by omega, by go_num, by rw [HT.out, HC1.out.1, ← HT.out, HC1.out.2, HT.out]; exact HF4.out⟩
          case measure => simp [intOf]; omega
        · have hkci : ¬ (k : Int) < (c : Int) := by omega
          have HC1 := Lib.hid (HC.out.2 hkc)
          clear HC hkc
          go_wp2_with fail
          refine (Fam.offer HF3.out (i := 2) (L := (S.take k).drop c) (m := m) (b := b2) rfl ((za, zb), zc) (by have := N.out; rw [List.length_drop, List.length_take]; omega)).mono ?_
          rintro e X4 ⟨rfl, hf, hs⟩
          have HF4 := Lib.hid (hf.less (P' := fun b => b < w2.heap.size) (fun _ h => .inl h))
          clear hf hs HF3 d0 d1 d2 HD3
          go_wp2
          go_roundw
          case rel => exact ⟨k + 1, by omega, by go_num, by rw [HC1.out.1, HC1.out.2, HT.out]; exact HF4.out⟩
          case measure => simp [intOf]; omega
      · have hke : k = S.length := by omega
        subst hke
        have HFE : Hid (Fam (fun b => b < w2.heap.size) w2 wr [⟨b0, some m, S⟩, ⟨b1, some m, S.take c⟩, ⟨b2, some m, S.drop c⟩, ⟨b3, some m, []⟩, ⟨bq, none, S⟩]) := by
          have h := HF.out
          rw [List.take_of_length_le (Nat.le_refl _), Nat.min_eq_right N.out.2] at h
          exact h
        have HK3 := Lib.hid (keep_two m (S.take c) (S.drop c))
        rw [List.take_append_drop] at HK3
        clear HF
        have lx : (keepS m (S.take c)).length ≤ 60 := by rw [keepS_len, List.length_take]; have := N.out; omega
        have ly : (keepS m (S.drop c)).length ≤ 60 := by rw [keepS_len, List.length_drop]; have := N.out; omega
        go_wp2_with fail
        refine (Fam.listO HFE.out (i := 1) (b := b1) (m := m) (L := S.take c) rfl (by rw [List.length_take]; have := N.out; omega)).mono ?_
        have HY := Lib.hid (fun X3 hb3 => Fam.list (HFE.out.later (W' := X3) hb3) (i := 2) (b := b2) (m := m) (L := S.drop c) rfl (by rw [List.length_drop]; have := N.out; omega))
        generalize keepS m (S.take c) = KX at *
        generalize keepS m (S.drop c) = KY at *
        rintro e X3 ⟨A3, c3, rfl, ho3, hb3⟩
        have HO3 := Lib.hid ho3
        have HB3 := Lib.hid hb3
        have HY3 := Lib.hid (HY.out X3 hb3)
        clear ho3 hb3 HY
        go_wp2_with fail
        refine HY3.out.mono ?_
        rintro e X4 ⟨A4, c4, rfl, hr4, -, -, hb4⟩
        have HO4 := Lib.hid (own_below HO3.out hb4)
        have HR4 := Lib.hid hr4
        have HB4 := Lib.hid (HB3.out.trans (hb4.mono HB3.out.size))
        clear hr4 hb4 HY3 HO3 HB3
        obtain ⟨Z, hZ⟩ : ∃ Z, KX ++ KY = Z := ⟨_, rfl⟩
        have hZl : KX.length + KY.length = Z.length := by rw [← hZ, List.length_append]
        rw [hZ] at HK3
        have HZ := Lib.hid (And.intro hZl ((cellsS_app KX KY).symm.trans (congrArg cellsS hZ)))
        clear hZ hZl
        go_wp2_with (at_builtin; refine wpList_append_cells rfl _ _ 28 rfl wr.heap.size 33 i0 _ 3 24 Try.underlying28 hi0 hz0 hz1 hz2 rfl (by decide) _ KX.length (cellsS KX) rfl HO4.out A4 KY.length c4 (cellsS KY) rfl (cellsS_len KY) (RdS.none_len HR4.out) (RdS.news_all HR4.out) cellsS_one (by unfold maxLen; omega) (by omega) HB4.out.size ?_; intro v5 X5 hown5 hg5; rw [HZ.out.1, HZ.out.2] at hown5; obtain ⟨A5, c5, rfl, hc5, hm5⟩ := ownSlice hown5)
        have hb5 := ownBase HO4.out HB4.out (Nat.le_refl _) HB4.out.size hg5
        have HF5 := Lib.hid (HFE.out.adds hb5)
        have lz : Z.length ≤ 120 := by have := HZ.out.1; omega
        have LZ := Lib.hid lz
        have hb5s := hb5.size
        clear hb5 hg5 HZ HO4 HR4 HB4 lx ly HFE
        have HR5 := Lib.hid (rdS_own hown5)
        have HP5 : Hid (0 < Z.length → ∀ k o, A5 = some ⟨k, o, none⟩ → wr.heap.size ≤ k ∧ k < X5.heap.size) := Lib.hid fun h0 k o e => by
          obtain ⟨g, hg1, hg2, hg3⟩ := ownPos hown5 h0
          rw [hg1] at e
          injection e with e
          injection e with e
          omega
        clear hown5 hc5 hm5 lz hb5s
        generalize wr.heap.size = B at *
        go_wp2
        go_loopw [100] (fun i wr => ∃ k : Nat, k ≤ Z.length ∧ i = .int .i64 k ∧ RdS wr X5.heap.size A5 Z ∧ X5.heap.size ≤ wr.heap.size ∧ Hid (Fam (fun b => b < w2.heap.size ∨ (B ≤ b ∧ b < X5.heap.size)) w2 wr [⟨b0, some m, S⟩, ⟨b1, some m, S.take c⟩, ⟨b2, some m, S.drop c⟩, ⟨b3, some m, Z.take k⟩, ⟨bq, none, S⟩])) (fun i _ => Z.length - (intOf i).toNat)
        case atStart => exact ⟨0, Nat.zero_le _, rfl, HR5.out, Nat.le_refl _, HF5.out⟩
        case round =>
          clear HF5 HR5
          obtain ⟨k, hk, rfl, hR, hsz, HF⟩ := hrel
          have lzO := LZ.out
          by_cases hlt : k < Z.length
          · obtain ⟨b, off, rfl, hb, h0, h1, h2⟩ := hR k _ (List.getElem?_eq_getElem hlt)
            have HT : Hid (Z.take (k + 1) = Z.take k ++ [Z[k]]) := List.take_succ_eq_append_getElem hlt
            have hbp := HP5.out (by omega) b off rfl
            have hsp : ∀ k' o, (some ⟨b, off, none⟩ : Option Addr) = some ⟨k', o, none⟩ → B ≤ k' ∧ k' < X5.heap.size := HP5.out (by omega)
            have HSP := Lib.hid hsp
            generalize Z[k] = z at *
            obtain ⟨⟨za, zb⟩, zc⟩ := z
            simp only at h0 h1 h2
            have hkl : (k : Int) < (Z.length : Int) := by omega
            have hk0 : (0 : Int) ≤ (k : Int) := by omega
            have hkn : ((k : Int)).toNat = k := Int.toNat_natCast k
            have HD := Lib.hid (SpC.new wr za zb zc)
            have HF1 := Lib.hid (HF.out.alloc (.cells #[.int .u64 za, .int .u64 zb, .int .i64 zc] 33))
            have HR1 := Lib.hid (hR.below ((Below.refl _ wr).alloc hsz (.cells #[.int .u64 za, .int .u64 zb, .int .i64 zc] 33)))
            have HSZ : Hid (X5.heap.size ≤ (wr.alloc (.cells #[.int .u64 za, .int .u64 zb, .int .i64 zc] 33)).heap.size) := by rw [Hid]; simp; omega
            clear HF hR hsp hbp
            go_upto_region 22 with (fail)
            generalize wr.alloc (.cells #[.int .u64 za, .int .u64 zb, .int .i64 zc] 33) = X1 at *
            generalize wr.heap.size = D at *
            clear h0 h1 h2
            obtain ⟨d0, d1, d2⟩ := HD.out
            simp only at d0 d1 d2
            go_wp2_with fail
            refine (Fam.offer HF1.out (i := 3) (L := Z.take k) (m := m) (b := b3) rfl ((za, zb), zc) (by have := LZ.out; rw [List.length_take]; omega)).mono ?_
            rintro e X2 ⟨rfl, hf, hs⟩
            have HF2 := Lib.hid (hf.less (P' := fun b => b < w2.heap.size ∨ (B ≤ b ∧ b < X5.heap.size)) (fun _ h => .inl h))
            have HR2 := Lib.hid (HR1.out.kept (fun k' o e => hs k' (.inl (.inr (HSP.out k' o e)))))
            have hsz2 : X5.heap.size ≤ X2.heap.size := Nat.le_trans HSZ.out hs.size
            clear hf hs d0 d1 d2 HD HF1 HR1 HSZ HSP
            go_wp2
            go_roundw
            case rel => exact ⟨k + 1, by omega, by go_num, HR2.out, hsz2, by rw [HT.out]; exact HF2.out⟩
            case measure => simp [intOf]; omega
          · have hke : k = Z.length := by omega
            subst hke
            have HFE : Hid (Fam (fun b => b < w2.heap.size ∨ (B ≤ b ∧ b < X5.heap.size)) w2 wr [⟨b0, some m, S⟩, ⟨b1, some m, S.take c⟩, ⟨b2, some m, S.drop c⟩, ⟨b3, some m, Z⟩, ⟨bq, none, (sortS S).drop 0⟩]) := by
              have h := HF.out
              rw [List.take_of_length_le (Nat.le_refl _)] at h
              exact h.permQ (i := 4) rfl (sortS_perm S).symm
            have HSL := Lib.hid (sortS_len S)
            have HDR : Hid (∀ k, spAt (sortS ((sortS S).drop k)) 0 = spAt (sortS S) k ∧ (sortS ((sortS S).drop k)).tail = (sortS S).drop (k + 1)) := Lib.hid fun k => ⟨spAt_sorted k, tail_sorted k⟩
            have HLO := Lib.hid (fun W hr => Least_any AS S cS most (by have := N.out; omega) W hr)
            rw [HK2.out] at HLO
            have HSR := Lib.hid HS.out
            clear HF hR hsz HP5 HK2 hk
            generalize hT : sortS S = T at *
            have hBw : w2.heap.size ≤ wr.heap.size := HFE.out.below.size
            generalize hB2 : wr.heap.size = B2 at *
            clear hT
            go_wp2
            rw [HK.out]
            go_loopw [19, 113] (fun v i wr => ∃ (k : Nat) (P : Nat → Prop), k ≤ K ∧ i = .int .i64 k ∧ wr.ownsRow B2 33 3 v k (cellsS (T.take k)) ∧ (∀ q, v.ownBlock = some q → P q) ∧ B2 ≤ wr.heap.size ∧ Hid (Fam P w2 wr [⟨b0, some m, S⟩, ⟨b1, some m, S.take c⟩, ⟨b2, some m, S.drop c⟩, ⟨b3, some m, Z⟩, ⟨bq, none, T.drop k⟩])) (fun _ i _ => K - (intOf i).toNat)
            case atStart => exact ⟨0, _, Nat.zero_le _, rfl, World.ownsRow_nil _ _ _ _, (fun q h => by simp [Value.ownBlock] at h), by omega, HFE.out⟩
            case round =>
              clear HFE hB2
              obtain ⟨k, P, hk, rfl, hown, hP, hBr, HF⟩ := hrel
              have hlow : ∀ q, (u19 : Value).ownBlock = some q → w2.heap.size ≤ q := fun q e => Nat.le_trans hBw (hown.lt q e).1
              obtain ⟨A1, c1, rfl, hc1, hm1⟩ := ownSlice hown
              have N2 := N.out.1
              have hKn := HKn.out
              by_cases hlt : k < K
              · obtain ⟨⟨⟨xa, xb⟩, xc⟩, hx⟩ : ∃ x, spAt T k = x := ⟨_, rfl⟩
                have HT : Hid (cellsS (T.take (k + 1)) = cellsS (T.take k) ++ [.int .u64 xa, .int .u64 xb, .int .i64 xc]) := by
                  have hkz : k < T.length := by have := HSL.out; omega
                  rw [Hid, List.take_succ_eq_append_getElem hkz, cellsS_snoc, ← spAt_get hkz, hx]
                  rfl
                have HX := Lib.hid ((HDR.out k).1.trans hx)
                have HTL := Lib.hid (HDR.out k).2
                have hdl : (T.drop k).length = S.length - k := by have := HSL.out; rw [List.length_drop]; omega
                have HDL := Lib.hid hdl
                have HOW := Lib.hid hown
                have hkl : (k : Int) < (K : Int) := by omega
                clear hx hdl hown
                go_wp2_with fail
                refine (Fam.pop HF.out (i := 4) (b := bq) (L := T.drop k) rfl (by rw [HDL.out]; omega) HX.out).mono ?_
                rintro e W1 ⟨rfl, hf, hs⟩
                rw [HTL.out] at hf
                have HF1 := Lib.hid (Fam.alloc hf (.cells #[.int .u64 xa, .int .u64 xb, .int .i64 xc] 33))
                have HO1 := Lib.hid ((own_kept HOW.out (fun q e => hs q (hP q e))).alloc (.cells #[.int .u64 xa, .int .u64 xb, .int .i64 xc] 33))
                have HC := Lib.hid (SpC.new W1 xa xb xc)
                have hpos : decide (0 < (T.drop k).length) = true := decide_eq_true (by rw [HDL.out]; omega)
                rw [hpos]
                have HSZ : Hid (B2 ≤ (W1.alloc (.cells #[.int .u64 xa, .int .u64 xb, .int .i64 xc] 33)).heap.size) := by have := hs.size; rw [Hid]; simp; omega
                clear hf hs HF HOW hpos HX HTL
                go_upto_region 28 with (fail)
                generalize W1.alloc (.cells #[.int .u64 xa, .int .u64 xb, .int .i64 xc] 33) = X1 at *
                generalize W1.heap.size = D at *
                obtain ⟨d0, d1, d2⟩ := HC.out
                simp only at d0 d1 d2
                have hBX : B2 ≤ X1.heap.size := HSZ.out
                go_wp2_with (at_builtin; refine wpList_append_lies _ rfl _ _ 28 rfl B2 33 i0 _ 3 24 Try.underlying28 hi0 hz0 hz1 hz2 rfl (by decide) _ k (cellsS (T.take k)) rfl (HO1.out.alloc _) ⟨X1.heap.size, 0, none⟩ 1 1 [.int .u64 xa, .int .u64 xb, .int .i64 xc] rfl rfl (World.news_of_block (cs := #[.int .u64 xa, .int .u64 xb, .int .i64 xc]) (t := 33) (fr := (0, 0)) (heap_alloc_new X1 _)) (by simp [Value.oneCell']) (by decide) (by unfold maxLen; omega) (by omega) (by simp; omega) (X1.heap.size + 1) (by simp) ?_; intro g cap W3 hown3 hgrow hat hlt3)
                have HF3 := Lib.hid (Fam.grown (HF1.out.alloc (.cells #[.int .u64 xa, .int .u64 xb, .int .i64 xc] 33)) hgrow (fun q e => ⟨.inl (.inl (hP q e)), hlow q e⟩))
                have HP3 : Hid (∀ q, (Value.slice (some ⟨g, 0, none⟩) (k + 1) cap).ownBlock = some q → ((P q ∨ q = D) ∨ q = X1.heap.size) ∨ ((X1.alloc (.cells #[.int .u64 xa, .int .u64 xb, .int .i64 xc] 33)).heap.size ≤ q ∧ q < W3.heap.size)) := Lib.hid fun q e => by
                  have e : g = q := by simpa [Value.ownBlock] using e
                  subst e
                  rcases hat with e | e
                  · exact .inl (.inl (.inl (hP g e)))
                  · exact .inr ⟨by rw [e]; simp, hlt3⟩
                rw [← HT.out] at hown3
                have hB3 : B2 ≤ W3.heap.size := by have := hgrow.size; simp at this; omega
                clear hgrow hat hlt3 HF1 HO1 HC d0 d1 d2 hP hlow
                go_wp2
                go_roundw
                case rel => exact ⟨k + 1, _, by omega, by go_num, hown3, HP3.out, hB3, HF3.out⟩
                case measure => simp [intOf]; omega
              · have hke : k = K := by omega
                subst hke
                have hTK : (T.take k).length = k := by rw [List.length_take]; have := HSL.out; omega
                have hkl : ¬ (k : Int) < (k : Int) := by omega
                have HF1 := Lib.hid HF.out
                have HOW := Lib.hid hown
                have HKS : Hid (keepS m Z = T.take k) := HK3.out.trans HK1.out
                have HK1' := Lib.hid HK1.out
                have lzz := LZ.out
                clear hown HF HK1 HK3
                obtain ⟨TK, hTKe⟩ : ∃ TK, T.take k = TK := ⟨_, rfl⟩
                rw [hTKe] at HOW HKS HK1' HLO hTK
                clear hTKe
                subst hTK
                have HR1 := Lib.hid (rdS_own HOW.out)
                clear HOW
                go_wp2_with fail
                refine (Fam.list HF1.out (i := 0) (b := b0) (m := m) (L := S) rfl (by omega)).mono ?_
                rw [HK1'.out]
                rintro e Y1 ⟨B1, d1, rfl, hr, -, -, hb⟩
                have HA1 := Lib.hid hr
                have HT1 := Lib.hid (rdS_later HR1.out hb)
                have HG1 := Lib.hid (HF1.out.later hb)
                clear hr hb HF1 HR1
                go_wp2_with fail
                refine (Fam.list HG1.out (i := 3) (b := b3) (m := m) (L := Z) rfl (by omega)).mono ?_
                rw [HKS.out]
                rintro e Y2 ⟨B2', d2, rfl, hr, -, -, hb⟩
                have HA2 := Lib.hid hr
                have HA1b := Lib.hid (rdS_later HA1.out hb)
                have HT2 := Lib.hid (rdS_later HT1.out hb)
                have HG2 := Lib.hid (HG1.out.later hb)
                clear hr hb HG1 HT1 HA1
                go_wp2_with fail
                refine (alike_refl B1 B2' TK d1 d2 _ HA1b.out HA2.out (by omega)).mono ?_
                rintro e Y3 ⟨rfl, hd⟩
                have HT3 := Lib.hid (rdS_later HT2.out (hd.below _))
                have HG3 := Lib.hid (HG2.out.later (hd.below _))
                clear hd HG2 HT2 HA1b HA2
                go_wp2_with fail
                refine (Fam.list HG3.out (i := 0) (b := b0) (m := m) (L := S) rfl (by omega)).mono ?_
                rw [HK1'.out]
                rintro e Y4 ⟨B4, d4, rfl, hr, -, -, hb⟩
                have HA4 := Lib.hid hr
                have HT4 := Lib.hid (rdS_later HT3.out hb)
                have HG4 := Lib.hid (HG3.out.later hb)
                clear hr hb HG3 HT3
                go_wp2_with fail
                refine (alike_refl B4 A1 TK d4 c1 _ HA4.out HT4.out (by omega)).mono ?_
                rintro e Y5 ⟨rfl, hd⟩
                have HT5 := Lib.hid (rdS_later HT4.out (hd.below _))
                have HG5 := Lib.hid (HG4.out.later (hd.below _))
                have HG5b := Lib.hid HG5.out.below
                clear hd HG4 HT4 HA4
                go_wp2_with fail
                refine (HLO.out Y5 ((HSR.out.below HG5b.out).more HG5b.out.size)).mono ?_
                rintro e Y6 ⟨B6, d6, rfl, hr, -, -, hb⟩
                have HA6 := Lib.hid hr
                have HT6 := Lib.hid (rdS_later HT5.out hb)
                have HG6 := Lib.hid (HG5.out.later hb)
                clear hr hb HG5 HT5 HG5b
                go_wp2_with fail
                refine (alike_refl A1 B6 TK c1 d6 _ HT6.out HA6.out (by omega)).mono ?_
                rintro e Y7 ⟨rfl, hd⟩
                have HG7 := Lib.hid (HG6.out.later (hd.below _)).below
                clear hd HG6 HT6 HA6
                go_wp2
                go_ret
                exact ⟨rfl, HB2.out.trans (HG7.out.mono HB2.out.size)⟩

end Go.Proofs.Ytglbefkfbnaijaa
