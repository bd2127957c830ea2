/- Those that are apart (ChooseApart), walked. -/
import Derived.Test.YtlgkdonaplejdaaChooseApart
namespace Go.Proofs.Ytlgkdonaplejdaa
open Go.RowKit Go.Shelf Go.Sort Go.Lib

theorem own_cap {w : World} {base e size n c : Nat} {A : Option Addr} {xs : List Value} (h : w.ownsRow base e size (.slice A n c) n xs) : n ≤ c ∧ c ≤ 9223372036854775807 := by
  obtain ⟨A', c', e1, h1, h2⟩ := ownSlice h
  injection e1 with _ _ e3
  subst e3
  exact ⟨h1, h2⟩
theorem it_cells {X W : World} {b : Nat} {id : Int} {ZA : Option Addr} {n c : Nat} (hlt : b < X.heap.size) (h0 : X.cell? ⟨b, 0, none⟩ = some (.int .u64 id)) (h1 : X.cell? ⟨b, 1, none⟩ = some (.slice ZA n c)) (hb : Below X.heap.size X W) :
    Below X.heap.size X W ∧ W.cell? ⟨b, 0, none⟩ = some (.int .u64 id) ∧ W.cell? ⟨b, 1, none⟩ = some (.slice ZA n c) :=
  ⟨hb, (hb.cell (p := ⟨b, 0, none⟩) hlt).trans h0, (hb.cell (p := ⟨b, 1, none⟩) hlt).trans h1⟩

set_option maxRecDepth 100000 in
set_option maxHeartbeats 16000000 in
theorem ChooseApart_walk (Q : Option Addr) (q : List Int) (cq : Nat) (A : Option Addr) (its : List ItT) (ca : Nat) (most : Int) (w : World) (hQ : VecB w w.heap.size Q q) (hI : ItemsAt w w.heap.size A its) (_hil : its.length ≤ 9223372036854775807) (hmx : -9223372036854775808 ≤ most ∧ most ≤ 9223372036854775807) :
    Calls Try.prog 4 #[.slice Q q.length cq, .slice A its.length ca, .int .i64 most] w fun e w' => e = .returned (.bool true) ∧ Below w.heap.size w w' := by
  have mixed : Try.prog.follows .mixedOrders = true := by kernel_rfl
  by_cases hlong : 60 < its.length
  · have h1 : (60 : Int) < (its.length : Int) := by omega
    clear hlong hQ hI hmx
    go_enter Try.func4, Try.ntmps4
    go_wp2_with fail
    refine (choose_lives_any w).mono ?_
    rintro e w1 ⟨rfl, hb⟩
    go_wp2
    go_ret
    exact ⟨rfl, hb⟩
  · have l1 : ¬ (60 : Int) < (its.length : Int) := by omega
    have N : Hid (its.length ≤ 60) := by rw [Hid]; omega
    have HQ := Lib.hid hQ
    have HI := Lib.hid hI
    have HMX := Lib.hid hmx
    have HSL := Lib.hid (spotsL_len q its)
    obtain ⟨i0, hi0, hz0, hz1, hz2⟩ := info_parts info_spot
    obtain ⟨i1, hi1, hy0, hy1, hy2⟩ := info_parts info_bool
    clear hlong hQ hI hmx
    go_enter Try.func4, Try.ntmps4
    go_wp2_with fail
    refine (choose_lives_any w).mono ?_
    rintro e w1 ⟨rfl, hb1⟩
    have HB1 := Lib.hid hb1
    have HQ1 := Lib.hid ((HQ.out.below hb1).more hb1.size)
    have HI1 := Lib.hid ((HI.out.below hb1).more hb1.size)
    clear hb1 HQ HI
    go_wp2
    go_loopw [29, 7] (fun i v wr => ∃ k : Nat, k ≤ its.length ∧ i = .int .i64 k ∧ wr.ownsRow w1.heap.size 37 3 v k (cellsS ((spotsL q its).take k)) ∧ Below w1.heap.size w1 wr) (fun i _ _ => its.length - (intOf i).toNat)
    case atStart => exact ⟨0, Nat.zero_le _, rfl, World.ownsRow_nil _ _ _ _, Below.refl _ _⟩
    case round =>
      obtain ⟨k, hk, rfl, hown, hbel⟩ := hrel
      have HBL := Lib.hid hbel
      by_cases hlt : k < its.length
      · obtain ⟨⟨b, off, rfl, hb, h0, h1, h2⟩, hZ⟩ := (HI1.out.below hbel) k _ (itAt_lt hlt)
        have HT : Hid (cellsS ((spotsL q its).take (k + 1)) = cellsS ((spotsL q its).take k) ++ encS (spotOf q (k : Int) (itAt its k))) := by rw [Hid, spotsL_take q its k hlt, cellsS_snoc]
        obtain ⟨z, hz⟩ : ∃ z, itAt its k = z := ⟨_, rfl⟩
        rw [hz] at h0 h1 h2 hZ HT
        obtain ⟨id, ZA, zv, zc, tg⟩ := z
        simp only at h0 h1 h2 hZ
        have hkl : (k : Int) < (its.length : Int) := by omega
        have hk0 : (0 : Int) ≤ (k : Int) := by omega
        have hkn : ((k : Int)).toNat = k := Int.toNat_natCast k
        have hbX := below_new3 wr (.cells #[.int .u64 id, .slice ZA zv.length zc, .int .u64 tg] 32)
        have HVQ := Lib.hid ((HQ1.out.below HBL.out).more HBL.out.size)
        have HVZ := Lib.hid (hZ.more HBL.out.size)
        have HOX := Lib.hid (hown.alloc (.cells #[.int .u64 id, .slice ZA zv.length zc, .int .u64 tg] 32))
        have HBX := Lib.hid (HBL.out.trans (hbX.mono HBL.out.size))
        have HVQ2 := Lib.hid ((HVQ.out.below hbX).more hbX.size)
        have HVZ2 := Lib.hid ((HVZ.out.below hbX).more hbX.size)
        have b0 : (wr.alloc (.cells #[.int .u64 id, .slice ZA zv.length zc, .int .u64 tg] 32)).cell? ⟨wr.heap.size, 0, none⟩ = some (.int .u64 id) := by go_cell
        have b1 : (wr.alloc (.cells #[.int .u64 id, .slice ZA zv.length zc, .int .u64 tg] 32)).cell? ⟨wr.heap.size, 1, none⟩ = some (.slice ZA zv.length zc) := by go_cell
        have hsz : wr.heap.size < (wr.alloc (.cells #[.int .u64 id, .slice ZA zv.length zc, .int .u64 tg] 32)).heap.size := by simp
        have HOWD : Hid (∀ p, (u7 : Value).ownBlock = some p → p < wr.heap.size) := Lib.hid fun p e => (hown.lt p e).2
        clear hz hown hbel hZ hbX HVQ HVZ hb
        go_upto_region 9 with (fail)
        generalize wr.alloc (.cells #[.int .u64 id, .slice ZA zv.length zc, .int .u64 tg] 32) = X at *
        generalize wr.heap.size = D at *
        clear h0 h1 h2
        have HALL := Lib.hid (fun W hb => it_cells (W := W) hsz b0 b1 hb)
        have hX0 := Below.refl X.heap.size X
        have l4 : k + 1 ≤ maxLen := by have := N.out; unfold maxLen; omega
        have l5 : (k + 1) * 24 ≤ 140737488355328 := by have := N.out; omega
        have HDI : Hid (distI q ⟨id, ZA, zv, zc, tg⟩ = satN (distN q zv (max q.length zv.length))) := rfl
        have HDX : Hid (∀ ca cb, Calls Try.prog 22 #[.slice Q q.length ca, .slice ZA zv.length cb] X.drew fun e w' => e = .returned (.int .u64 (satN (distN q zv (max q.length zv.length)))) ∧ Below X.heap.size X w') := Lib.hid fun ca cb => (VecB.dist (HVQ2.out.below (below_draws X 1 _)) (HVZ2.out.below (below_draws X 1 _)) (Nat.le_refl _) ca cb).mono fun _ _ ⟨he, hb⟩ => ⟨he, (below_draws X 1 _).trans hb⟩
        have HDY : Hid (∀ ca cb, Calls Try.prog 22 #[.slice Q q.length ca, .slice ZA zv.length cb] X fun e w' => e = .returned (.int .u64 (satN (distN q zv (max q.length zv.length)))) ∧ Below X.heap.size X w') := Lib.hid fun ca cb => VecB.dist HVQ2.out HVZ2.out (Nat.le_refl _) ca cb
        clear b0 b1
        have hlowD : ∀ p, (u7 : Value).ownBlock = some p → p < D := fun p e => HOWD.out p e
        go_region_held3 (fun W => W.cell? ⟨D, 0, none⟩ = some (.int .u64 id) ∧ W.cell? ⟨D, 1, none⟩ = some (.slice ZA zv.length zc))
          (with_reducible first | assumption | exact (HALL.out _ (by assumption)).2 | exact (HALL.out _ (below_drew (by assumption))).2 | exact (HALL.out _ (below_allocS (by assumption) _)).2 | exact (HALL.out _ (below_drew (below_allocS (by assumption) _))).2)
          (first
            | (go_at_call 22; (with_reducible first | refine Calls.mono (HDX.out cq zc) ?_ | refine Calls.mono (HDY.out cq zc) ?_); rw [← HDI.out]; rintro e W1 ⟨rfl, hb1⟩)
            | (refine step_append_cells (by rfl) _ _ 22 (by rfl) w1.heap.size 37 i0 _ 3 24 Try.underlying22 hi0 hz0 hz1 hz2 rfl (by decide) u7 k (cellsS ((spotsL q its).take k)) (by rfl) ((own_kept HOX.out (fun p e => hb1.block p (Nat.lt_trans (hlowD p e) hsz))).alloc _) (some ⟨W1.heap.size, 0, none⟩) 1 1 [.int .u64 (distI q ⟨id, ZA, zv, zc, tg⟩), .int .u64 id, .int .i64 (k : Int)] (by rfl) (by rfl) (fun e => by cases e) (one_news (heap_alloc_new W1 _)) (by simp [Value.oneCell']) l4 l5 (by have := hb1.size; have := HBX.out.size; simp; omega) ?_; intro v2 W2 hown2 hg2; have hs0 := hg2.cell_far (a := ⟨D, 0, none⟩) (by have := hb1.size; simp; omega) (fun e => absurd (hlowD D e.symm) (Nat.lt_irrefl _)); have hs1 := hg2.cell_far (a := ⟨D, 1, none⟩) (by have := hb1.size; simp; omega) (fun e => absurd (hlowD D e.symm) (Nat.lt_irrefl _)); have hS := And.intro (hs0.trans (HALL.out _ (below_allocS hb1 _)).2.1) (hs1.trans (HALL.out _ (below_allocS hb1 _)).2.2); clear hs0 hs1))
        have hb2 := ownBase ((own_kept HOX.out (fun p e => hb1.block p (Nat.lt_trans (hlowD p e) hsz))).alloc _) ((HBX.out.trans (hb1.mono HBX.out.size)).alloc (Nat.le_trans HBX.out.size hb1.size) _) (Nat.le_refl _) (by have := hb1.size; have := HBX.out.size; simp; omega) hg2
        have hown3 : W2.ownsRow w1.heap.size 37 3 v2 (k + 1) (cellsS ((spotsL q its).take (k + 1))) := by rw [HT.out]; exact hown2
        clear hown2 hg2 hlowD
        go_wp2
        go_roundw
        case rel => exact ⟨k + 1, by omega, by go_num, hown3, hb2⟩
        case measure => simp [intOf]; omega
      · have hke : k = its.length := by omega
        subst hke
        clear HQ1
        rw [List.take_of_length_le (by rw [HSL.out]; exact Nat.le_refl _)] at hown
        have hown2 : wr.ownsRow w1.heap.size 37 3 u7 (spotsL q its).length (cellsS (spotsL q its)) := by rw [HSL.out]; exact hown
        obtain ⟨AS, cS, rfl, _, _⟩ := ownSlice hown2
        have HRS := Lib.hid (rdS_own hown2)
        have HB2 := Lib.hid (HB1.out.trans (hbel.mono HB1.out.size))
        have HI2 := Lib.hid ((HI1.out.below hbel).more hbel.size)
        have HASK := Lib.hid (fun M ch Bb (hO : IsOrd (spotsL q its) its M) hch hB => asks_of (q := q) (its := its) (M := M) (ch := ch) (most := most) (Bb := Bb) hO hch hB)
        have HSG := Lib.hid (fun k (h : k < its.length) => spotsL_get q its k h)
        obtain ⟨W2, hW2⟩ : ∃ W, W = wr := ⟨_, rfl⟩
        subst hW2
        clear hown hown2 hbel HI1 HB1 hlt hk
        generalize spotsL q its = S at *
        have HAP := Lib.hid (Apart_any AS S cS A its ca W2 HRS.out HI2.out (by have := HSL.out; have := N.out; omega))
        go_wp2_with fail
        refine Calls.mono HAP.out ?_
        rintro e w3 ⟨M, hO, A3, c3, rfl, ho3, hb3⟩
        have HO := Lib.hid hO
        have HRS3 := Lib.hid ((HRS.out.below hb3).more hb3.size)
        have HI3 := Lib.hid ((HI2.out.below hb3).more hb3.size)
        have HB3 := Lib.hid (HB2.out.trans (hb3.mono HB2.out.size))
        have HRA3 := Lib.hid (rdS_own ho3)
        have HC3 := Lib.hid (own_cap ho3)
        obtain ⟨ch, hch⟩ : ∃ ch, (splitGo its (S.length : Int) M [] []).1 = ch := ⟨_, rfl⟩
        rw [hch] at HRA3 HC3 ⊢
        have HCH := Lib.hid hch
        clear hO ho3 hb3 hch HAP HRS HI2 HB2
        have HBS := Lib.hid (Best_any AS S cS A its ca most w3 HRS3.out HI3.out (by have := HSL.out; have := N.out; omega) HMX.out.2 ⟨M, HO.out⟩)
        go_wp2_with fail
        refine Calls.mono HBS.out ?_
        rintro e w4 ⟨M', hO', A4, c4, rfl, hr4, -, -, hb4⟩
        obtain rfl : M' = M := hO'.one HO.out
        obtain ⟨Bb, hBb⟩ : ∃ Bb, (if most < 1 then [] else spotsC (bestL its most M')) = Bb := ⟨_, rfl⟩
        obtain ⟨hAS, hnb⟩ := HASK.out M' ch Bb HO.out HCH.out hBb
        have HAS := Lib.hid hAS
        have HNB := Lib.hid hnb
        rw [hBb] at hr4 ⊢
        have HRB := Lib.hid hr4
        have HRS4 := Lib.hid ((HRS3.out.below hb4).more hb4.size)
        have HI4 := Lib.hid ((HI3.out.below hb4).more hb4.size)
        have HRA4 := Lib.hid ((HRA3.out.below hb4).more hb4.size)
        have HB4 := Lib.hid (HB3.out.trans (hb4.mono HB3.out.size))
        clear hO' hBb hAS hnb hr4 hb4 HBS HASK HO HCH HRS3 HI3 HB3 HRA3
        obtain ⟨n, hn⟩ : ∃ n, its.length = n := ⟨_, rfl⟩
        obtain ⟨nb, hnb⟩ : ∃ nb, Bb.length = nb := ⟨_, rfl⟩
        have HSN : Hid (S.length = n) := by rw [Hid, HSL.out, hn]
        rw [HSL.out, hn]
        have HZ : Hid ((spotsC ch).length = ch.length) := spotsC_len ch
        rw [HZ.out, hnb]
        rw [HZ.out] at HC3
        have hn60 : n ≤ 60 := by have := N.out; omega
        have hE : max (0 : Int) (min most (n : Int)) = (nb : Int) := by have := HNB.out; rw [hn, hnb] at this; exact this.symm
        have hF : decide ((ch.length : Int) < min (1 : Int) (n : Int)) = false := by
          have := HAS.out.cho.first
          simp
          omega
        have hcl : ch.length ≤ n := by have := HAS.out.le; omega
        have hnb60 : nb ≤ 60 := by have := hE; omega
        have hb8 : i1.bytes * n ≤ 281474976710656 := by rw [hy2]; omega
        have hml : n ≤ maxLen := by unfold maxLen; omega
        have HN := Lib.hid hn
        have HNB2 := Lib.hid hnb
        clear hn hnb
        go_wp2_with (at_make; refine wpList_make_full _ rfl _ _ _ rfl w4.heap.size 4 i1 (.bool false) 1 Try.underlying38 hi1 hy0 hy1 _ _ _ _ n rfl rfl rfl rfl hb8 hml (Nat.le_refl _) ?_; intro w5 hown hgr)
        have hbel := (Below.refl w4.heap.size w4).grown hgr (Nat.le_refl _) (fun _ h => by cases h)
        have hown1 : w5.ownsRow w4.heap.size 4 1 (.slice (some ⟨w4.heap.size, 0, none⟩) n n) n (inL n []) := by rw [← inL_nil]; exact hown
        clear hown hgr hb8 hml hi1 hy0 hy1 hy2 hE hF
        go_loopw [75] (fun i wr => ∃ k : Nat, k ≤ ch.length ∧ i = .int .i64 k ∧ wr.ownsRow w4.heap.size 4 1 (.slice (some ⟨w4.heap.size, 0, none⟩) n n) n (inL n (ch.take k)) ∧ Below w4.heap.size w4 wr) (fun i _ => ch.length - (intOf i).toNat)
        case atStart => exact ⟨0, Nat.zero_le _, rfl, by simpa using hown1, hbel⟩
        case round =>
          clear hown1 hbel
          obtain ⟨k, hk, rfl, hown, hbel⟩ := hrel
          by_cases hlt : k < ch.length
          · obtain ⟨hx1, hx2⟩ := HAS.out.cho.mem ch[k] (List.getElem_mem hlt)
            obtain ⟨b3, o3, rfl, hb3, x0, x1, x2⟩ := rdC (HRA4.out.below hbel) k hlt
            have hSl : ch[k].2 < S.length := by have := HSL.out; omega
            obtain ⟨bS, oS, rfl, hbS, y0, y1, y2⟩ := (HRS4.out.below hbel) ch[k].2 _ (spAt_lt hSl)
            rw [HSG.out _ hx1, ← hx2] at y0 y1 y2
            have hin : wr.cell? ⟨w4.heap.size, ch[k].2, none⟩ = some (.bool false) := by
              rw [hown.cellAt ch[k].2 (by have := HN.out; omega), inL_get _ (by have := HN.out; omega)]
              congr 2
              rw [decide_eq_false_iff_not]
              rintro ⟨y, hy, e⟩
              obtain ⟨j, hj, rfl⟩ := List.getElem_of_mem hy
              rw [List.length_take] at hj
              rw [List.getElem_take] at e
              exact HAS.out.cho.once k j hlt (by omega) e
            have HT : Hid (inL n (ch.take (k + 1)) = (inL n (ch.take k)).set ch[k].2 (.bool true)) := by
              rw [Hid, List.take_succ_eq_append_getElem hlt, inL_set _ _ (by have := HN.out; omega)]
            have HPV : Hid (∀ q, k = q + 1 → ∃ p : SpotT, ltS p ch[k].1.1 = true ∧ wr.cell? ⟨b3, o3 + q * 3, none⟩ = some (.int .u64 p.1.1) ∧ wr.cell? ⟨b3, o3 + q * 3 + 1, none⟩ = some (.int .u64 p.1.2) ∧ wr.cell? ⟨b3, o3 + q * 3 + 2, none⟩ = some (.int .i64 p.2)) := Lib.hid fun q hq => by
              subst hq
              obtain ⟨b', o', he, _, p0, p1, p2⟩ := rdC (HRA4.out.below hbel) q (by omega)
              injection he with he
              injection he with e1 e2
              subst e1 e2
              exact ⟨_, HAS.out.cho.ahead q hlt, p0, p1, p2⟩
            have HBV : Hid (k < nb → ∃ bB oB, A4 = some ⟨bB, oB, none⟩ ∧ bB < w4.heap.size ∧ wr.cell? ⟨bB, oB + k * 3, none⟩ = some (.int .u64 ch[k].1.1.1.1) ∧ wr.cell? ⟨bB, oB + k * 3 + 1, none⟩ = some (.int .u64 ch[k].1.1.1.2) ∧ wr.cell? ⟨bB, oB + k * 3 + 2, none⟩ = some (.int .i64 ch[k].1.1.2)) := Lib.hid fun h => by
              have h2 : k < Bb.length := by have := HNB2.out; omega
              obtain ⟨bB, oB, h3, h4, p0, p1, p2⟩ := (HRB.out.below hbel) k _ (List.getElem?_eq_getElem h2)
              rw [HAS.out.at_ k hlt h2] at p0 p1 p2
              exact ⟨bB, oB, h3, h4, p0, p1, p2⟩
            have HAPT : Hid (∀ j (hj : j < k), ¬ distT its ch[k].2 (ch[j]'(by omega)).2 < ch[k].1.1.1.1) := Lib.hid (fun j (hj : j < k) => HAS.out.cho.apart k j hlt hj)
            have ht : ch[k].2 < n := by have := HN.out; omega
            have hsl : ch[k].1.1.2 = (ch[k].2 : Int) := by rw [hx2]; rfl
            rw [hsl] at x2 y2 HBV
            generalize ch[k].1.1 = s at *
            generalize ch[k].2 = t at *
            obtain ⟨⟨sa, sb⟩, sc⟩ := s
            simp only at x0 x1 x2 y0 y1 y2 hsl
            subst hsl
            have hkl : (k : Int) < (ch.length : Int) := by omega
            have hk0 : (0 : Int) ≤ (k : Int) := by omega
            have hkn : ((k : Int)).toNat = k := Int.toNat_natCast k
            have hBA := below_new3 wr (.cells #[.int .u64 sa, .int .u64 sb, .int .i64 (t : Int)] 37)
            have HBX := Lib.hid (hbel.trans (hBA.mono hbel.size))
            have HOX := Lib.hid (hown.alloc (.cells #[.int .u64 sa, .int .u64 sb, .int .i64 (t : Int)] 37))
            have HBA := Lib.hid hBA
            have HWR := Lib.hid hbel.size
            have hDX : wr.heap.size < (wr.alloc (.cells #[.int .u64 sa, .int .u64 sb, .int .i64 (t : Int)] 37)).heap.size := by simp
            have d0 : (wr.alloc (.cells #[.int .u64 sa, .int .u64 sb, .int .i64 (t : Int)] 37)).cell? ⟨wr.heap.size, 0, none⟩ = some (.int .u64 sa) := by go_cell
            have d1 : (wr.alloc (.cells #[.int .u64 sa, .int .u64 sb, .int .i64 (t : Int)] 37)).cell? ⟨wr.heap.size, 1, none⟩ = some (.int .u64 sb) := by go_cell
            have d2 : (wr.alloc (.cells #[.int .u64 sa, .int .u64 sb, .int .i64 (t : Int)] 37)).cell? ⟨wr.heap.size, 2, none⟩ = some (.int .i64 (t : Int)) := by go_cell
            have hDw : w4.heap.size < wr.heap.size := by
              obtain ⟨g, e, _, h⟩ := ownPos hown (by omega)
              injection e with e
              injection e with e
              omega
            clear hown hbel hBA
            go_upto_region 18 with (fail)
            have e0 := (HBA.out.cell (p := ⟨bS, oS + t * 3, none⟩) (Nat.lt_of_lt_of_le hbS HWR.out)).trans y0
            have e1 := (HBA.out.cell (p := ⟨bS, oS + t * 3 + 1, none⟩) (Nat.lt_of_lt_of_le hbS HWR.out)).trans y1
            have e2 := (HBA.out.cell (p := ⟨bS, oS + t * 3 + 2, none⟩) (Nat.lt_of_lt_of_le hbS HWR.out)).trans y2
            have e3 := (HBA.out.cell (p := ⟨w4.heap.size, t, none⟩) hDw).trans hin
            generalize wr.alloc (.cells #[.int .u64 sa, .int .u64 sb, .int .i64 (t : Int)] 37) = X at *
            go_cut [75, 133] from 75 to 164 (fun i v wx => i = .int .i64 (k : Int) ∧ v = .bool false ∧ Grown X wx)
            case first =>
              have hwX := HBA.out.size
              have hw4 := HWR.out
              have r0 : decide ((t : Int) < 0) = false := by simp
              have r1 : decide ((n : Int) ≤ (t : Int)) = false := by simp; omega
              have r1n : decide (n ≤ t) = false := by simp; omega
              have r1m : ¬ n ≤ t := by omega
              have r2 : (t : Int) < (n : Int) := by omega
              have r3 : (0 : Int) ≤ (t : Int) := by omega
              have r4 : ((t : Int)).toNat = t := Int.toNat_natCast t
              have g0 := fun n os => cell_grown (n := n) (os := os) (a := ⟨wr.heap.size, 0, none⟩) hDX d0
              have g1 := fun n os => cell_grown (n := n) (os := os) (a := ⟨wr.heap.size, 1, none⟩) hDX d1
              have g2 := fun n os => cell_grown (n := n) (os := os) (a := ⟨wr.heap.size, 2, none⟩) hDX d2
              have f0 := fun n os => cell_grown (n := n) (os := os) (a := ⟨bS, oS + t * 3, none⟩) (by show bS < _; omega) e0
              have f1 := fun n os => cell_grown (n := n) (os := os) (a := ⟨bS, oS + t * 3 + 1, none⟩) (by show bS < _; omega) e1
              have f2 := fun n os => cell_grown (n := n) (os := os) (a := ⟨bS, oS + t * 3 + 2, none⟩) (by show bS < _; omega) e2
              have f3 := fun n os => cell_grown (n := n) (os := os) (a := ⟨w4.heap.size, t, none⟩) (by show w4.heap.size < _; omega) e3
              clear x0 x1 x2 y0 y1 y2 hin HOX
              rcases Nat.eq_zero_or_pos k with hk00 | hkp
              · have r5 : decide ((0 : Int) < (k : Int)) = false := by simp; omega
                have r5n : decide (0 < k) = false := by simp; omega
                clear g0 g1 g2 f0 f1 f2 f3 hk00
                by_cases hkb : k < nb
                · obtain ⟨bB, oB, rfl, hbB, p0, p1, p2⟩ := HBV.out hkb
                  have r6 : (k : Int) < (nb : Int) := by omega
                  have q0 := (HBA.out.cell (p := ⟨bB, oB + k * 3, none⟩) (by show bB < _; omega)).trans p0
                  have q1 := (HBA.out.cell (p := ⟨bB, oB + k * 3 + 1, none⟩) (by show bB < _; omega)).trans p1
                  have q2 := (HBA.out.cell (p := ⟨bB, oB + k * 3 + 2, none⟩) (by show bB < _; omega)).trans p2
                  clear p0 p1 p2
                  go_big_quiet (fail)
                  go_wp2
                  go_meet
                  exact ⟨rfl, rfl, nq, #[], by simp⟩
                · have r6 : decide ((k : Int) < (nb : Int)) = false := by simp; omega
                  have r6n : decide (k < nb) = false := by simp; omega
                  go_big_quiet (fail)
                  go_wp2
                  go_meet
                  exact ⟨rfl, rfl, nq, #[], by simp⟩
              · obtain ⟨q, rfl⟩ : ∃ q, k = q + 1 := ⟨k - 1, by omega⟩
                obtain ⟨p, hp, p0, p1, p2⟩ := HPV.out q rfl
                obtain ⟨⟨pa, pb⟩, pc⟩ := p
                simp only at p0 p1 p2
                have q0 := fun n os => cell_grown (n := n) (os := os) (a := ⟨b3, o3 + q * 3, none⟩) (by show b3 < _; omega) ((HBA.out.cell (p := ⟨b3, o3 + q * 3, none⟩) (by show b3 < _; omega)).trans p0)
                have q1 := fun n os => cell_grown (n := n) (os := os) (a := ⟨b3, o3 + q * 3 + 1, none⟩) (by show b3 < _; omega) ((HBA.out.cell (p := ⟨b3, o3 + q * 3 + 1, none⟩) (by show b3 < _; omega)).trans p1)
                have q2 := fun n os => cell_grown (n := n) (os := os) (a := ⟨b3, o3 + q * 3 + 2, none⟩) (by show b3 < _; omega) ((HBA.out.cell (p := ⟨b3, o3 + q * 3 + 2, none⟩) (by show b3 < _; omega)).trans p2)
                clear p0 p1 p2
                have hq60 : q ≤ 60 := by omega
                have hqi : (q : Int) ≤ 60 := by omega
                have hq1 : (0 : Int) ≤ (q : Int) := by omega
                have hq2 : ((q : Int)).toNat = q := Int.toNat_natCast q
                have hq3 : IntKind.i64.wrap (q : Int) = (q : Int) := by rw [IntKind.wrap_i64]; omega
                have hq4 : (q : Int) < (ch.length : Int) := by omega
                have hq5 : ((q + 1 : Nat) : Int) - 1 = (q : Int) := by omega
                by_cases hkb : q + 1 < nb
                · obtain ⟨bB, oB, rfl, hbB, p0, p1, p2⟩ := HBV.out hkb
                  have r6 : ((q + 1 : Nat) : Int) < (nb : Int) := by omega
                  have r7 : (q : Int) + 1 < (nb : Int) := by omega
                  have m0 := fun n os => cell_grown (n := n) (os := os) (a := ⟨bB, oB + (q + 1) * 3, none⟩) (by show bB < _; omega) ((HBA.out.cell (p := ⟨bB, oB + (q + 1) * 3, none⟩) (by show bB < _; omega)).trans p0)
                  have m1 := fun n os => cell_grown (n := n) (os := os) (a := ⟨bB, oB + (q + 1) * 3 + 1, none⟩) (by show bB < _; omega) ((HBA.out.cell (p := ⟨bB, oB + (q + 1) * 3 + 1, none⟩) (by show bB < _; omega)).trans p1)
                  have m2 := fun n os => cell_grown (n := n) (os := os) (a := ⟨bB, oB + (q + 1) * 3 + 2, none⟩) (by show bB < _; omega) ((HBA.out.cell (p := ⟨bB, oB + (q + 1) * 3 + 2, none⟩) (by show bB < _; omega)).trans p2)
                  clear p0 p1 p2 d0 d1 d2 e0 e1 e2 e3
                  refine wp_region_quiet_grown (by assumption) (by kernel_rfl) ?_
                  repeat (go_big_quiet_step ((go_at_call 23; exact Calls.grown_of (Spot_val ((_, _), _) ((_, _), _) _ _ (by assumption)))))
                  refine wpQuiet_nil ?_
                  intro _ hw'
                  obtain ⟨⟨nq, osq⟩, hw''⟩ := hw'
                  subst hw''
                  go_wp2
                  go_meet
                  exact ⟨rfl, rfl, nq, osq, rfl⟩
                · have r6 : decide (((q + 1 : Nat) : Int) < (nb : Int)) = false := by simp; omega
                  have r7 : decide ((q : Int) + 1 < (nb : Int)) = false := by simp; omega
                  have r7n : decide (q + 1 < nb) = false := by simp; omega
                  clear d0 d1 d2 e0 e1 e2 e3
                  refine wp_region_quiet_grown (by assumption) (by kernel_rfl) ?_
                  repeat (go_big_quiet_step ((go_at_call 23; exact Calls.grown_of (Spot_val ((_, _), _) ((_, _), _) _ _ (by assumption)))))
                  refine wpQuiet_nil ?_
                  intro _ hw'
                  obtain ⟨⟨nq, osq⟩, hw''⟩ := hw'
                  subst hw''
                  go_wp2
                  go_meet
                  exact ⟨rfl, rfl, nq, osq, rfl⟩
            case rest =>
              obtain ⟨rfl, rfl, hgr⟩ := hcut
              have HB6 := Lib.hid ((HBX.out.trans (hgr.below.mono HBX.out.size)).setCell (Nat.le_refl _) (p := ⟨w4.heap.size, t, none⟩) (.bool true))
              have HOY := Lib.hid (own_below HOX.out hgr.below)
              have c0 := (hgr.below.cell (p := ⟨wr.heap.size, 0, none⟩) hDX).trans d0
              have c2 := (hgr.below.cell (p := ⟨wr.heap.size, 2, none⟩) hDX).trans d2
              have c3' := (hgr.below.cell (p := ⟨w4.heap.size, t, none⟩) (Nat.lt_of_lt_of_le hDw HBA.out.size)).trans e3
              have hDY : wr.heap.size < wc.heap.size := Nat.lt_of_lt_of_le hDX hgr.below.size
              have hfz := HOY.out.frozenAt t
              have r2 : (t : Int) < (n : Int) := by omega
              have r3 : (0 : Int) ≤ (t : Int) := by omega
              have r4 : ((t : Int)).toNat = t := Int.toNat_natCast t
              clear hgr x0 x1 x2 y0 y1 y2 hin d0 d1 d2 e0 e1 e2 e3 HBX HOX HPV HBV hDX HBA HWR
              generalize wc = Y at *
              generalize wr.heap.size = D at *
              go_upto_region 21 with (fail)
              have HO6 := Lib.hid ((HOY.out.stored t (.bool true)).1)
              rw [← HT.out] at HO6
              have c0' := (World.cell?_setCell_other Y ⟨w4.heap.size, t, none⟩ ⟨D, 0, none⟩ (.bool true) (by simp)).trans c0
              have c2' := (World.cell?_setCell_other Y ⟨w4.heap.size, t, none⟩ ⟨D, 2, none⟩ (.bool true) (by simp)).trans c2
              have hDZ : D < (Y.setCell ⟨w4.heap.size, t, none⟩ (.bool true)).heap.size := by rw [World.size_setCell]; exact hDY
              clear c0 c2 c3' hfz HOY hDY
              generalize Y.setCell ⟨w4.heap.size, t, none⟩ (.bool true) = Z6 at *
              have hkc : (k : Int) ≤ (c3 : Int) := by have := HC3.out.1; omega
              have hkc2 : (ch.length : Int) ≤ (c3 : Int) := by have := HC3.out.1; omega
              go_wp2
              go_loopw [142] (fun i wq => ∃ j : Nat, j ≤ k ∧ i = .int .i64 j ∧ Below Z6.heap.size Z6 wq) (fun i _ => k - (intOf i).toNat)
              case atStart => exact ⟨0, Nat.zero_le _, rfl, Below.refl _ _⟩
              case round =>
                obtain ⟨j, hj, rfl, hbq⟩ := hrel
                by_cases hjk : j < k
                · have HB7 := Lib.hid (HB6.out.trans (hbq.mono HB6.out.size))
                  have hjc : j < ch.length := by omega
                  obtain ⟨b', o', he, hb', p0, p1, p2⟩ := rdC (HRA4.out.below HB7.out) j hjc
                  injection he with he
                  injection he with e1 e2
                  subst e1 e2
                  obtain ⟨hy1, hy2⟩ := HAS.out.cho.mem ch[j] (List.getElem_mem hjc)
                  have hys : ch[j].1.1.2 = (ch[j].2 : Int) := by rw [hy2]; rfl
                  rw [hys] at p2
                  have hnd := HAPT.out j hjk
                  have hti : t < its.length := by have := HN.out; omega
                  obtain ⟨⟨bi, oi, rfl, hbi, -, a1, -⟩, hV1⟩ := (HI4.out.below HB7.out) t _ (itAt_lt hti)
                  obtain ⟨⟨bi', oi', he, -, -, a2, -⟩, hV2⟩ := (HI4.out.below HB7.out) ch[j].2 _ (itAt_lt hy1)
                  injection he with he
                  injection he with e1 e2
                  subst e1 e2
                  have hy1n : ch[j].2 < n := by have := HN.out; omega
                  unfold distT at hnd
                  clear hy2 hys
                  generalize ch[j].1.1 = y at *
                  generalize ch[j].2 = u at *
                  obtain ⟨⟨ya, yb⟩, yc⟩ := y
                  simp only at p0 p1 p2
                  generalize itAt its t = z1 at *
                  generalize itAt its u = z2 at *
                  obtain ⟨zi1, zA1, zv1, zc1, zt1⟩ := z1
                  obtain ⟨zi2, zA2, zv2, zc2, zt2⟩ := z2
                  simp only at a1 a2 hV1 hV2 hnd
                  obtain ⟨dd, hdd⟩ : ∃ dd, satN (distN zv1 zv2 (max zv1.length zv2.length)) = dd := ⟨_, rfl⟩
                  rw [hdd] at hnd
                  have HDD := Lib.hid hdd
                  clear hdd
                  have s1 : (j : Int) < (k : Int) := by omega
                  have s2 : (0 : Int) ≤ (j : Int) := by omega
                  have s3 : ((j : Int)).toNat = j := Int.toNat_natCast j
                  have s4 : (u : Int) < (n : Int) := by omega
                  have s5 : (0 : Int) ≤ (u : Int) := by omega
                  have s6 : ((u : Int)).toNat = u := Int.toNat_natCast u
                  have hBA := below_new3 wr (.cells #[.int .u64 ya, .int .u64 yb, .int .i64 (u : Int)] 37)
                  have HBE := Lib.hid (hbq.trans (hBA.mono hbq.size))
                  have hEX : wr.heap.size < (wr.alloc (.cells #[.int .u64 ya, .int .u64 yb, .int .i64 (u : Int)] 37)).heap.size := by simp
                  have m0 := (hBA.cell (p := ⟨D, 0, none⟩) (Nat.lt_of_lt_of_le hDZ hbq.size)).trans ((hbq.cell (p := ⟨D, 0, none⟩) hDZ).trans c0')
                  have m2 := (hBA.cell (p := ⟨D, 2, none⟩) (Nat.lt_of_lt_of_le hDZ hbq.size)).trans ((hbq.cell (p := ⟨D, 2, none⟩) hDZ).trans c2')
                  have hw := Nat.le_trans HB6.out.size hbq.size
                  have m3 := (hBA.cell (p := ⟨bi, oi + t * 3 + 1, none⟩) (Nat.lt_of_lt_of_le hbi hw)).trans a1
                  have m4 := (hBA.cell (p := ⟨bi, oi + u * 3 + 1, none⟩) (Nat.lt_of_lt_of_le hbi hw)).trans a2
                  have m5 : (wr.alloc (.cells #[.int .u64 ya, .int .u64 yb, .int .i64 (u : Int)] 37)).cell? ⟨wr.heap.size, 2, none⟩ = some (.int .i64 (u : Int)) := by go_cell
                  have HV1 := Lib.hid (((hV1.more hw).below hBA).more hBA.size)
                  have HV2 := Lib.hid (((hV2.more hw).below hBA).more hBA.size)
                  have hDE : D < (wr.alloc (.cells #[.int .u64 ya, .int .u64 yb, .int .i64 (u : Int)] 37)).heap.size := Nat.lt_of_lt_of_le (Nat.lt_of_lt_of_le hDZ hbq.size) hBA.size
                  have hbE := Nat.lt_of_lt_of_le (Nat.lt_of_lt_of_le hbi hw) hBA.size
                  clear hbq hBA a1 a2 hV1 hV2 c0' c2' hDZ
                  go_upto_region 24 with (fail)
                  generalize wr.alloc (.cells #[.int .u64 ya, .int .u64 yb, .int .i64 (u : Int)] 37) = V at *
                  generalize wr.heap.size = E at *
                  have HALL := Lib.hid (fun W hb => five_cells (W := W) hDE hEX hbE m2 m5 m3 m4 m0 hb)
                  have hX0 := Below.refl V.heap.size V
                  have HDX : Hid (∀ ca cb, Calls Try.prog 22 #[.slice zA1 zv1.length ca, .slice zA2 zv2.length cb] V.drew fun e w' => e = .returned (.int .u64 dd) ∧ Below V.heap.size V w') := Lib.hid fun ca cb => (VecB.dist (HV1.out.below (below_draws V 1 _)) (HV2.out.below (below_draws V 1 _)) (Nat.le_refl _) ca cb).mono fun _ _ ⟨he, hb⟩ => ⟨by rw [he, HDD.out], (below_draws V 1 _).trans hb⟩
                  have HDY : Hid (∀ ca cb, Calls Try.prog 22 #[.slice zA1 zv1.length ca, .slice zA2 zv2.length cb] V fun e w' => e = .returned (.int .u64 dd) ∧ Below V.heap.size V w') := Lib.hid fun ca cb => (VecB.dist HV1.out HV2.out (Nat.le_refl _) ca cb).mono fun _ _ ⟨he, hb⟩ => ⟨by rw [he, HDD.out], hb⟩
                  have hndd : decide (dd < sa) = false := by simpa using hnd
                  clear p0 p1 p2
                  go_region_held3 (fun W => W.cell? ⟨D, 2, none⟩ = some (.int .i64 (t : Int)) ∧ W.cell? ⟨E, 2, none⟩ = some (.int .i64 (u : Int)) ∧ W.cell? ⟨bi, oi + t * 3 + 1, none⟩ = some (.slice zA1 zv1.length zc1) ∧ W.cell? ⟨bi, oi + u * 3 + 1, none⟩ = some (.slice zA2 zv2.length zc2) ∧ W.cell? ⟨D, 0, none⟩ = some (.int .u64 sa))
                    (with_reducible first | assumption | exact (HALL.out _ (by assumption)).2 | exact (HALL.out _ (below_drew (by assumption))).2)
                    (first
                      | (go_at_call 22; (with_reducible first | refine Calls.mono (HDX.out zc1 zc2) ?_ | refine Calls.mono (HDY.out zc1 zc2) ?_); rintro e W1 ⟨rfl, hb1⟩))
                  all_goals
                    have HB9 := Lib.hid (HBE.out.trans (hb1.mono HBE.out.size))
                    go_wp2
                    go_roundw
                    case rel => exact ⟨j + 1, by omega, by go_num, HB9.out⟩
                    case measure => simp [intOf]; omega
                · obtain rfl : j = k := by omega
                  have HB7 := Lib.hid (HB6.out.trans (hbq.mono HB6.out.size))
                  have HO7 := Lib.hid (own_below HO6.out hbq)
                  clear hbq HB6 HO6
                  go_wp2
                  go_roundw
                  case rel => exact ⟨j + 1, by omega, by go_num, HO7.out, HB7.out⟩
                  case measure => simp [intOf]; omega
          · obtain rfl : k = ch.length := by omega
            rw [List.take_of_length_le (Nat.le_refl _)] at hown
            have HO6 := Lib.hid hown
            have HB6 := Lib.hid hbel
            obtain ⟨W6, hW6⟩ : ∃ W, W = wr := ⟨_, rfl⟩
            subst hW6
            have HF := Lib.hid HB4.out.size
            clear hown hbel hlt hk HRB HNB HNB2
            go_wp2
            go_loopw [167] (fun i wq => ∃ k : Nat, k ≤ n ∧ i = .int .i64 k ∧ Below W6.heap.size W6 wq) (fun i _ => n - (intOf i).toNat)
            case atStart => exact ⟨0, Nat.zero_le _, rfl, Below.refl _ _⟩
            case round =>
              obtain ⟨k, hk, rfl, hbq⟩ := hrel
              have HB7 := Lib.hid (HB6.out.trans (hbq.mono HB6.out.size))
              by_cases hkn' : k < n
              · have hti : k < its.length := by have := HN.out; omega
                have hSl : k < S.length := by have := HSL.out; omega
                obtain ⟨bS, oS, rfl, hbS, y0, y1, y2⟩ := (HRS4.out.below HB7.out) k _ (spAt_lt hSl)
                rw [HSG.out _ hti] at y0 y1 y2
                have HPR := Lib.hid (HAS.out.cho.rest k hti)
                have hs2 : (spotOf q (k : Int) (itAt its k)).2 = (k : Int) := rfl
                rw [hs2] at y2
                have hin : wr.cell? ⟨w4.heap.size, k, none⟩ = some (.bool (decide (∃ x ∈ ch, x.2 = k))) := by
                  rw [(own_below HO6.out hbq).cellAt k (by omega), inL_get _ hkn']
                generalize hsd : spotOf q (k : Int) (itAt its k) = s at *
                have HSD := Lib.hid hsd
                clear hsd
                obtain ⟨⟨sa, sb⟩, sc⟩ := s
                simp only at y0 y1 y2 hs2
                have hkl : (k : Int) < (n : Int) := by omega
                have hk0 : (0 : Int) ≤ (k : Int) := by omega
                have hkn : ((k : Int)).toNat = k := Int.toNat_natCast k
                have hBA := below_new3 wr (.cells #[.int .u64 sa, .int .u64 sb, .int .i64 (k : Int)] 37)
                have HBX := Lib.hid (hbq.trans (hBA.mono hbq.size))
                have hDX : wr.heap.size < (wr.alloc (.cells #[.int .u64 sa, .int .u64 sb, .int .i64 (k : Int)] 37)).heap.size := by simp
                have d0 : (wr.alloc (.cells #[.int .u64 sa, .int .u64 sb, .int .i64 (k : Int)] 37)).cell? ⟨wr.heap.size, 0, none⟩ = some (.int .u64 sa) := by go_cell
                have d1 : (wr.alloc (.cells #[.int .u64 sa, .int .u64 sb, .int .i64 (k : Int)] 37)).cell? ⟨wr.heap.size, 1, none⟩ = some (.int .u64 sb) := by go_cell
                have d2 : (wr.alloc (.cells #[.int .u64 sa, .int .u64 sb, .int .i64 (k : Int)] 37)).cell? ⟨wr.heap.size, 2, none⟩ = some (.int .i64 (k : Int)) := by go_cell
                have hDw : w4.heap.size < wr.heap.size := by
                  obtain ⟨g, e, _, h⟩ := ownPos HO6.out (by omega)
                  injection e with e
                  injection e with e
                  have := hbq.size
                  omega
                have e3 := (hBA.cell (p := ⟨w4.heap.size, k, none⟩) hDw).trans hin
                clear hbq hin hBA
                go_upto_region 31 with (fail)
                generalize wr.alloc (.cells #[.int .u64 sa, .int .u64 sb, .int .i64 (k : Int)] 37) = X at *
                generalize wr.heap.size = D at *
                clear y0 y1 y2
                by_cases hmt : ∃ x ∈ ch, x.2 = k
                · rw [decide_eq_true hmt] at e3
                  clear hmt HPR
                  go_wp2
                  go_roundw
                  case rel => exact ⟨k + 1, by omega, by go_num, HBX.out⟩
                  case measure => simp [intOf]; omega
                · rw [decide_eq_false hmt] at e3
                  have HPR2 : Hid (ch.any (pick its k ((sa, sb), sc)) = true) := by
                    rw [Hid, List.any_eq_true]
                    rcases HPR.out with h | ⟨e, he, h1, h2⟩
                    · exact absurd h hmt
                    · refine ⟨e, he, ?_⟩
                      unfold pick
                      rw [Bool.and_eq_true]
                      refine ⟨h1, decide_eq_true ?_⟩
                      unfold distT
                      exact h2
                  clear hmt HPR
                  go_wp2
                  go_loopw [178, 19] (fun i v wq => ∃ (j : Nat) (b : Bool), j ≤ ch.length ∧ i = .int .i64 j ∧ v = .bool b ∧ Hid (b = (ch.take j).any (pick its k ((sa, sb), sc))) ∧ Below X.heap.size X wq) (fun i _ _ => ch.length - (intOf i).toNat)
                  case atStart => exact ⟨0, false, Nat.zero_le _, rfl, rfl, by simp [Hid], Below.refl _ _⟩
                  case round =>
                    obtain ⟨j, b, hj, rfl, rfl, HBJ, hbq⟩ := hrel
                    by_cases hjc : j < ch.length
                    · have HB8 := Lib.hid (HB6.out.trans ((HBX.out.trans (hbq.mono HBX.out.size)).mono HB6.out.size))
                      obtain ⟨b3, o3, rfl, hb3, p0, p1, p2⟩ := rdC (HRA4.out.below HB8.out) j hjc
                      obtain ⟨hy1, hy2⟩ := HAS.out.cho.mem ch[j] (List.getElem_mem hjc)
                      have hys : ch[j].1.1.2 = (ch[j].2 : Int) := by rw [hy2]; rfl
                      rw [hys] at p2
                      have HNX : Hid ((ch.take (j + 1)).any (pick its k ((sa, sb), sc)) = ((ch.take j).any (pick its k ((sa, sb), sc)) || (ltS ch[j].1.1 ((sa, sb), sc) && decide (distT its k ch[j].2 < sa)))) := by
                        rw [Hid, List.take_succ_eq_append_getElem hjc, List.any_append]
                        simp [pick]
                      rw [← HBJ.out] at HNX
                      obtain ⟨⟨bi, oi, rfl, hbi, -, a1, -⟩, hV1⟩ := (HI4.out.below HB8.out) k _ (itAt_lt hti)
                      obtain ⟨⟨bi', oi', he, -, -, a2, -⟩, hV2⟩ := (HI4.out.below HB8.out) ch[j].2 _ (itAt_lt hy1)
                      injection he with he
                      injection he with e1 e2
                      subst e1 e2
                      have hy1n : ch[j].2 < n := by have := HN.out; omega
                      unfold distT at HNX
                      clear hy2 HBJ
                      generalize ch[j].1.1 = y at *
                      generalize ch[j].2 = u at *
                      obtain ⟨⟨ya, yb⟩, yc⟩ := y
                      simp only at p0 p1 p2 hys
                      subst hys
                      generalize itAt its k = z1 at *
                      generalize itAt its u = z2 at *
                      obtain ⟨zi1, zA1, zv1, zc1, zt1⟩ := z1
                      obtain ⟨zi2, zA2, zv2, zc2, zt2⟩ := z2
                      simp only at a1 a2 hV1 hV2 HNX
                      obtain ⟨dd, hdd⟩ : ∃ dd, satN (distN zv1 zv2 (max zv1.length zv2.length)) = dd := ⟨_, rfl⟩
                      rw [hdd] at HNX
                      have HDD := Lib.hid hdd
                      clear hdd
                      have s1 : (j : Int) < (ch.length : Int) := by omega
                      have s2 : (0 : Int) ≤ (j : Int) := by omega
                      have s3 : ((j : Int)).toNat = j := Int.toNat_natCast j
                      have s4 : (u : Int) < (n : Int) := by omega
                      have s5 : (0 : Int) ≤ (u : Int) := by omega
                      have s6 : ((u : Int)).toNat = u := Int.toNat_natCast u
                      have hBA := below_new3 wr (.cells #[.int .u64 ya, .int .u64 yb, .int .i64 (u : Int)] 37)
                      have HBE := Lib.hid (hbq.trans (hBA.mono hbq.size))
                      have hEX : wr.heap.size < (wr.alloc (.cells #[.int .u64 ya, .int .u64 yb, .int .i64 (u : Int)] 37)).heap.size := by simp
                      have hDq := Nat.lt_of_lt_of_le hDX hbq.size
                      have m0 := (hBA.cell (p := ⟨D, 0, none⟩) hDq).trans ((hbq.cell (p := ⟨D, 0, none⟩) hDX).trans d0)
                      have m1 := (hBA.cell (p := ⟨D, 1, none⟩) hDq).trans ((hbq.cell (p := ⟨D, 1, none⟩) hDX).trans d1)
                      have m2 := (hBA.cell (p := ⟨D, 2, none⟩) hDq).trans ((hbq.cell (p := ⟨D, 2, none⟩) hDX).trans d2)
                      have hw := HB8.out.size
                      have m3 := (hBA.cell (p := ⟨bi, oi + k * 3 + 1, none⟩) (Nat.lt_of_lt_of_le hbi hw)).trans a1
                      have m4 := (hBA.cell (p := ⟨bi, oi + u * 3 + 1, none⟩) (Nat.lt_of_lt_of_le hbi hw)).trans a2
                      have n0 : (wr.alloc (.cells #[.int .u64 ya, .int .u64 yb, .int .i64 (u : Int)] 37)).cell? ⟨wr.heap.size, 0, none⟩ = some (.int .u64 ya) := by go_cell
                      have n1 : (wr.alloc (.cells #[.int .u64 ya, .int .u64 yb, .int .i64 (u : Int)] 37)).cell? ⟨wr.heap.size, 1, none⟩ = some (.int .u64 yb) := by go_cell
                      have n2 : (wr.alloc (.cells #[.int .u64 ya, .int .u64 yb, .int .i64 (u : Int)] 37)).cell? ⟨wr.heap.size, 2, none⟩ = some (.int .i64 (u : Int)) := by go_cell
                      have HV1 := Lib.hid (((hV1.more hw).below hBA).more hBA.size)
                      have HV2 := Lib.hid (((hV2.more hw).below hBA).more hBA.size)
                      have hDE := Nat.lt_of_lt_of_le hDq hBA.size
                      have hbE := Nat.lt_of_lt_of_le (Nat.lt_of_lt_of_le hbi hw) hBA.size
                      clear hbq hBA a1 a2 hV1 hV2 d0 d1 d2 e3 hDX hDq
                      go_upto_region 36 with (fail)
                      generalize wr.alloc (.cells #[.int .u64 ya, .int .u64 yb, .int .i64 (u : Int)] 37) = V at *
                      generalize wr.heap.size = E at *
                      clear p0 p1 p2
                      have hcells : Eight V D E bi (oi + k * 3 + 1) (oi + u * 3 + 1) sa sb (k : Int) ya yb (u : Int) (.slice zA1 zv1.length zc1) (.slice zA2 zv2.length zc2) := ⟨hDE, hEX, hbE, m0, m1, m2, n0, n1, n2, m3, m4⟩
                      have HEI := Lib.hid hcells
                      cases b
                      · obtain ⟨r, hr⟩ : ∃ r, ltS ((ya, yb), (u : Int)) ((sa, sb), sc) = r := ⟨_, rfl⟩
                        rw [hr] at HNX
                        subst hs2
                        cases r
                        · have g0 := fun n os => cell_grown (n := n) (os := os) (a := ⟨E, 0, none⟩) hEX n0
                          have g1 := fun n os => cell_grown (n := n) (os := os) (a := ⟨E, 1, none⟩) hEX n1
                          have g2 := fun n os => cell_grown (n := n) (os := os) (a := ⟨E, 2, none⟩) hEX n2
                          have f0 := fun n os => cell_grown (n := n) (os := os) (a := ⟨D, 0, none⟩) hDE m0
                          have f1 := fun n os => cell_grown (n := n) (os := os) (a := ⟨D, 1, none⟩) hDE m1
                          have f2 := fun n os => cell_grown (n := n) (os := os) (a := ⟨D, 2, none⟩) hDE m2
                          clear hcells m0 m1 m2 m3 m4 n0 n1 n2
                          refine wp_region_quiet_grown (by assumption) (by kernel_rfl) ?_
                          repeat (go_big_quiet_step ((go_at_call 23; exact Calls.grown_of (Spot_val ((_, _), _) ((_, _), _) _ _ (by assumption)))))
                          refine wpQuiet_nil ?_
                          intro _ hw'
                          obtain ⟨⟨nq, osq⟩, hw''⟩ := hw'
                          subst hw''
                          have HB9 := Lib.hid (HBE.out.trans ((show Grown V (grow (V.drewN nq) osq) from ⟨nq, osq, rfl⟩).below.mono HBE.out.size))
                          clear g0 g1 g2 f0 f1 f2 hr
                          go_wp2
                          go_roundw
                          case rel => exact ⟨j + 1, false, by omega, by go_num, rfl, by rw [Hid, HNX.out]; rfl, HB9.out⟩
                          case measure => simp [intOf]; omega
                        · have HSP := Lib.hid (fun W => Spot_val ((ya, yb), (u : Int)) ((sa, sb), (k : Int)) W true hr)
                          clear hr hcells m0 m1 m2 m3 m4 n0 n1 n2
                          have hX0 := Below.refl V.heap.size V
                          have HDT : Hid (∀ W, Below V.heap.size V W → Calls Try.prog 22 #[.slice zA1 zv1.length zc1, .slice zA2 zv2.length zc2] W fun e w' => e = .returned (.int .u64 dd) ∧ Below V.heap.size V w') := Lib.hid fun W hb => (VecB.dist (HV1.out.below hb) (HV2.out.below hb) hb.size zc1 zc2).mono fun _ _ ⟨he, h2⟩ => ⟨by rw [he, HDD.out], hb.trans (h2.mono hb.size)⟩
                          have HST : Hid (∀ W, Below V.heap.size V W → Calls Try.prog 23 #[.agg #[.int .u64 ya, .int .u64 yb, .int .i64 (u : Int)], .agg #[.int .u64 sa, .int .u64 sb, .int .i64 (k : Int)]] W fun e w' => e = .returned (.bool true) ∧ Below V.heap.size V w') := Lib.hid fun W hb => (HSP.out W).mono fun _ _ ⟨he, h2⟩ => ⟨he, hb.trans (h2.below.mono hb.size)⟩
                          obtain ⟨c, hc⟩ : ∃ c, decide (dd < sa) = c := ⟨_, rfl⟩
                          rw [hc] at HNX
                          go_region_held3 (fun W => Below V.heap.size V W ∧ W.cell? ⟨E, 0, none⟩ = some (.int .u64 ya) ∧ W.cell? ⟨E, 1, none⟩ = some (.int .u64 yb) ∧ W.cell? ⟨E, 2, none⟩ = some (.int .i64 (u : Int)) ∧ W.cell? ⟨D, 0, none⟩ = some (.int .u64 sa) ∧ W.cell? ⟨D, 1, none⟩ = some (.int .u64 sb) ∧ W.cell? ⟨D, 2, none⟩ = some (.int .i64 (k : Int)) ∧ W.cell? ⟨bi, oi + k * 3 + 1, none⟩ = some (.slice zA1 zv1.length zc1) ∧ W.cell? ⟨bi, oi + u * 3 + 1, none⟩ = some (.slice zA2 zv2.length zc2))
                            (with_reducible first | assumption | exact Eight.all HEI.out (by assumption) | exact Eight.all HEI.out (below_drew (by assumption)) | exact Eight.all HEI.out (And.left (by assumption)) | exact Eight.all HEI.out (below_drew (And.left (by assumption))))
                            (first
                              | (go_at_call 23; (with_reducible refine Calls.mono (HST.out _ (And.left (by assumption))) ?_); rintro e W1 ⟨rfl, hb1⟩)
                              | (go_at_call 22; (with_reducible refine Calls.mono (HDT.out _ (And.left (by assumption))) ?_); rintro e W1 ⟨rfl, hb1⟩))
                          all_goals
                            have HB9 := Lib.hid (HBE.out.trans (hb1.mono HBE.out.size))
                            go_wp2
                            go_roundw
                            case rel => exact ⟨j + 1, c, by omega, by go_num, rfl, by rw [Hid, HNX.out]; rfl, HB9.out⟩
                            case measure => simp [intOf]; omega
                      · clear hcells
                        go_big_quiet (fail)
                        have HB9 := Lib.hid (HBE.out.trans ((below_draws V nq V.heap.size).mono HBE.out.size))
                        clear m0 m1 m2 m3 m4 n0 n1 n2
                        go_wp2
                        go_roundw
                        case rel => exact ⟨j + 1, true, by omega, by go_num, rfl, by rw [Hid, HNX.out]; rfl, HB9.out⟩
                        case measure => simp [intOf]; omega
                    · obtain rfl : j = ch.length := by omega
                      have hbt : b = true := by rw [HBJ.out, List.take_of_length_le (Nat.le_refl _), HPR2.out]
                      subst hbt
                      have HB8 := Lib.hid (HBX.out.trans (hbq.mono HBX.out.size))
                      clear HBJ hbq d0 d1 d2 e3
                      go_wp2
                      go_roundw
                      case rel => exact ⟨k + 1, by omega, by go_num, HB8.out⟩
                      case measure => simp [intOf]; omega
              · have HE9 := Lib.hid (HB4.out.trans (HB7.out.mono HB4.out.size))
                clear hbq HB6 HB7 HO6
                go_wp2
                go_ret
                exact ⟨rfl, HE9.out⟩

end Go.Proofs.Ytlgkdonaplejdaa
