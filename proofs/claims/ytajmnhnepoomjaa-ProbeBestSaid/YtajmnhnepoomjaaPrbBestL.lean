/- What a probe finds is the best of what it knows (ProbeBest), walked. -/
import Derived.Test.YtajmnhnepoomjaaPrbBestP
namespace Go.Proofs.Ytajmnhnepoomjaa
open Go.RowKit Go.Shelf Go.Sort Go.Lib Go.Maps

/-- What the spot's region keeps: the item in its block. -/
theorem item2_all {X W : World} {D : Nat} {id : Int} {ZA : Option Addr} {zn zc : Nat} (hlt : D < X.heap.size) (h0 : X.cell? ⟨D, 0, none⟩ = some (.int .u64 id)) (h1 : X.cell? ⟨D, 1, none⟩ = some (.slice ZA zn zc)) (hb : Below X.heap.size X W) :
    Below X.heap.size X W ∧ W.cell? ⟨D, 0, none⟩ = some (.int .u64 id) ∧ W.cell? ⟨D, 1, none⟩ = some (.slice ZA zn zc) :=
  ⟨hb, (hb.cell (p := ⟨D, 0, none⟩) hlt).trans h0, (hb.cell (p := ⟨D, 1, none⟩) hlt).trans h1⟩

set_option maxRecDepth 100000 in
set_option maxHeartbeats 8000000 in
theorem ProbeBest_walk (Q : Option Addr) (q : List Int) (cq : Nat) (mask : Int) (A : Option Addr) (its : List ItT) (ca : Nat) (ef : Int) (w : World) (hQ : VecB w w.heap.size Q q) (hqb : q.length * 4 ≤ 140737488351232) (hI : ItemsAt w w.heap.size A its) (_hil : its.length ≤ 9223372036854775807) (hef : -9223372036854775808 ≤ ef ∧ ef ≤ 9223372036854775807) :
    Calls Try.prog 6 #[.slice Q q.length cq, .int .u64 mask, .slice A its.length ca, .int .i64 ef] w fun e w' => e = .returned (.bool true) ∧ Below w.heap.size w w' := by
  have mixed : Try.prog.follows .mixedOrders = true := by kernel_rfl
  obtain ⟨i0, hi0, hz0, hz1, hz2⟩ := info_parts info_spot
  have HI := Lib.hid hI
  have HQ := Lib.hid hQ
  have HEF := Lib.hid hef
  clear hI hQ hef
  go_enter Try.func6, Try.ntmps6
  go_wp2_with fail
  refine (prb_lives_any w).mono ?_
  rintro e w2 ⟨rfl, hb2⟩
  have HI2 := Lib.hid ((HI.out.below hb2).more hb2.size)
  have HQ2 := Lib.hid ((HQ.out.below hb2).more hb2.size)
  have HB2 := Lib.hid hb2
  clear hb2 HI HQ
  by_cases hlong : 60 < its.length
  · have h1 : (60 : Int) < (its.length : Int) := by omega
    go_wp2
    go_ret
    exact ⟨rfl, HB2.out⟩
  have l1 : ¬ (60 : Int) < (its.length : Int) := by omega
  have N : Hid (its.length ≤ 60) := by rw [Hid]; omega
  have HNEW := Lib.hid (pNew_any (Fam.nil (P := fun k => k < w2.heap.size) w2 (fun _ h => h)) Q q cq mask ef HQ2.out hqb)
  clear hlong hqb
  go_wp2_with fail
  refine HNEW.out.mono ?_
  rintro e w3 ⟨V, bp, bm, bq, bl, Q', cq', rfl, hbV, hb3, hp⟩
  generalize hm : bestN ef = m at *
  have HM := Lib.hid hm
  have hvs : V.heap.size ≤ w3.heap.size := by
    have := hp.pl
    by_cases h0 : w2.heap.size < V.heap.size
    · have := hp.pl (V.heap.size - 1) (.inr ⟨by omega, by omega⟩)
      omega
    · have := hb3.size
      omega
  have HB0 : Hid (PR (fun k => k < w2.heap.size ∨ (w2.heap.size ≤ k ∧ k < V.heap.size)) w2 w3 w3.heap.size bp bm bq bl Q' q cq' mask m 0 (slotsK 0) ((spotsL q its).take 0) (someL q mask its 0) (.slice none 0 0) ((spotsL q its).take 0) (.slice none 0 0) (someL q mask its 0)) := ⟨hp, ⟨World.ownsRow_nil _ _ _ _, fun k e => by cases e⟩, ⟨World.ownsRow_nil _ _ _ _, fun k e => by cases e⟩, fun g e => (by cases e), fun g hg => .inl hg, Nat.le_refl _, hp.lp, hb3.size, fun b o mm e hn => by
    have := hp.vec.p b o mm e hn
    exact hp.pl b this⟩
  have HBPL := Lib.hid hp.lp
  have HB3 := Lib.hid (HB2.out.trans (hb3.mono HB2.out.size))
  clear hm hp hbV hb3 hvs HNEW
  have HSL := Lib.hid (spotsL_len q its)
  go_wp2
  go_loopw [33, 10, 11] (fun i v1 v2 wr => ∃ (k : Nat) (P : Nat → Prop), k ≤ its.length ∧ i = .int .i64 k ∧ Hid (PR P w2 wr w3.heap.size bp bm bq bl Q' q cq' mask m k (slotsK k) ((spotsL q its).take k) (someL q mask its k) v1 ((spotsL q its).take k) v2 (someL q mask its k))) (fun i _ _ _ => its.length - (intOf i).toNat)
  case atStart => exact ⟨0, _, Nat.zero_le _, rfl, HB0.out⟩
  case round =>
    clear HB0
    obtain ⟨k, P, hk, rfl, HB⟩ := hrel
    have hbel : Below w2.heap.size w2 wr := HB.out.pr.below
    by_cases hlt : k < its.length
    · obtain ⟨⟨b, off, rfl, hb, h0, h1, h2⟩, hZ⟩ := (HI2.out.below hbel) k _ (itAt_lt hlt)
      have hn60 := N.out
      have HT : Hid ((spotsL q its).take (k + 1) = (spotsL q its).take k ++ [spotOf q (k : Int) (itAt its k)]) := spotsL_take q its k hlt
      have HSN := Lib.hid (someL_next q mask its k)
      have hsl := someL_len q mask its k
      have htl : ((spotsL q its).take k).length = k := by rw [List.length_take, HSL.out]; omega
      obtain ⟨z, hz⟩ : ∃ z, itAt its k = z := ⟨_, rfl⟩
      rw [hz] at h0 h1 h2 hZ HT HSN
      have hz0' := (HI2.out k _ (itAt_lt hlt)).2
      rw [hz] at hz0'
      obtain ⟨id, ZA, zv, zc, tg⟩ := z
      simp only at h0 h1 h2 HSN hz0'
      have HZV : Hid (VecB w2 w2.heap.size ZA zv) := hz0'
      clear hz0'
      have hkl : (k : Int) < (its.length : Int) := by omega
      have hk0 : (0 : Int) ≤ (k : Int) := by omega
      have hkn : ((k : Int)).toNat = k := Int.toNat_natCast k
      have hbX := below_new3 wr (.cells #[.int .u64 id, .slice ZA zv.length zc, .int .u64 tg] 36)
      have d0 : (wr.alloc (.cells #[.int .u64 id, .slice ZA zv.length zc, .int .u64 tg] 36)).cell? ⟨wr.heap.size, 0, none⟩ = some (.int .u64 id) := by go_cell
      have d1 : (wr.alloc (.cells #[.int .u64 id, .slice ZA zv.length zc, .int .u64 tg] 36)).cell? ⟨wr.heap.size, 1, none⟩ = some (.slice ZA zv.length zc) := by go_cell
      have d2 : (wr.alloc (.cells #[.int .u64 id, .slice ZA zv.length zc, .int .u64 tg] 36)).cell? ⟨wr.heap.size, 2, none⟩ = some (.int .u64 tg) := by go_cell
      have hDX : wr.heap.size < (wr.alloc (.cells #[.int .u64 id, .slice ZA zv.length zc, .int .u64 tg] 36)).heap.size := by simp
      obtain ⟨dd, hdd⟩ : ∃ dd, distI q ⟨id, ZA, zv, zc, tg⟩ = dd := ⟨_, rfl⟩
      have HDD : Hid (satN (distN q zv (max q.length zv.length)) = dd) := hdd
      have HSP : Hid (spotOf q (k : Int) ⟨id, ZA, zv, zc, tg⟩ = ((dd, id), (k : Int))) := by rw [Hid, spotOf, hdd]
      rw [HSP.out] at HT HSN
      have HDE := Lib.hid hdd
      have HQW : Hid (∀ W, Below wr.heap.size wr W → VecB W W.heap.size Q q) := Lib.hid fun W hW => ((HQ2.out.below hbel).below (hW.mono hbel.size)).more (Nat.le_trans hbel.size hW.size)
      have HZW : Hid (∀ W, Below wr.heap.size wr W → VecB W W.heap.size ZA zv) := Lib.hid fun W hW => ((HZV.out.below hbel).below (hW.mono hbel.size)).more (Nat.le_trans hbel.size hW.size)
      have HDT : Hid (∀ W, Below (wr.alloc (.cells #[.int .u64 id, .slice ZA zv.length zc, .int .u64 tg] 36)).heap.size (wr.alloc (.cells #[.int .u64 id, .slice ZA zv.length zc, .int .u64 tg] 36)) W → Calls Try.prog 21 #[.slice Q q.length cq, .slice ZA zv.length zc] W fun e w' => e = .returned (.int .u64 dd) ∧ Below (wr.alloc (.cells #[.int .u64 id, .slice ZA zv.length zc, .int .u64 tg] 36)).heap.size (wr.alloc (.cells #[.int .u64 id, .slice ZA zv.length zc, .int .u64 tg] 36)) w' ∧ Below W.heap.size W w') := Lib.hid fun W hW => by
        have hW2 := hbX.trans (hW.mono hbX.size)
        exact (VecB.dist (HQW.out W hW2) (HZW.out W hW2) (Nat.le_refl _) cq zc).mono fun _ _ ⟨he, h2⟩ => ⟨by rw [he, HDD.out], hW.trans (h2.mono hW.size), h2⟩
      have HBX := Lib.hid hbX
      clear hdd hbX hZ hz hbel hb
      go_upto_region 12 with (fail)
      generalize hX1 : wr.alloc (.cells #[.int .u64 id, .slice ZA zv.length zc, .int .u64 tg] 36) = X1 at *
      generalize hD : wr.heap.size = D at *
      have HD := Lib.hid hD
      clear h0 h1 h2 hX1 hD
      have hall := fun W (hb : Below X1.heap.size X1 W) => item2_all (W := W) hDX d0 d1 hb
      have HALL := Lib.hid hall
      have HDC := Lib.hid (And.intro d0 (And.intro d1 d2))
      have hX0 := Below.refl X1.heap.size X1
      clear hall d0 d1 d2
      go_cut [14] (fun p wx => ∃ E, p = .pointer (some ⟨E, 0, none⟩) ∧ X1.heap.size ≤ E ∧ E < wx.heap.size ∧ SpC wx E ((dd, id), (k : Int)) ∧ Below X1.heap.size X1 wx)
      case first =>
        go_region_held3 (fun W => Below X1.heap.size X1 W ∧ W.cell? ⟨D, 0, none⟩ = some (.int .u64 id) ∧ W.cell? ⟨D, 1, none⟩ = some (.slice ZA zv.length zc))
          (with_reducible first | assumption | exact HALL.out _ (Below.set3 (by assumption) (Nat.le_refl _) _ _ _) | exact HALL.out _ (Below.set3 (And.left (by assumption)) (Nat.le_refl _) _ _ _) | exact HALL.out _ (by assumption) | exact HALL.out _ (below_dr (by assumption)) | exact HALL.out _ (And.left (by assumption)) | exact HALL.out _ (below_dr (And.left (by assumption))) | exact HALL.out _ (below_al (by assumption) _) | exact HALL.out _ (below_al (And.left (by assumption)) _) | exact HALL.out _ (below_al (below_dr (by assumption)) _) | exact HALL.out _ (below_al (below_dr (And.left (by assumption))) _))
          (first
            | (go_at_call 21; (with_reducible refine Calls.mono (HDT.out _ (And.left (by assumption))) ?_); rintro e W1 ⟨rfl, hb1, hb2⟩; (with_reducible first | have hq := @offer_new1 X1 W1 hb2 | have hq := @offer_new2 X1 W1 hb2 | have hq := trivial); clear hb2; try obtain ⟨q0, q1, q2, r0, r1, r2⟩ := hq))
        all_goals
          go_wp2
          go_meet
          first
            | exact ⟨_, rfl, hb1.size, by simp, SpC.new _ _ _ _, below_al hb1 _⟩
            | exact ⟨_, rfl, Nat.le_refl _, by have := World.block_lt_of_cell? _ _ q0; simpa using this, set3_cells q0 q1 q2 _ _ _, Below.set3 hb1 (Nat.le_refl _) _ _ _⟩
      case rest =>
        obtain ⟨E, rfl, hE1, hE2, hsp, hbc⟩ := hcut
        have hb4 : Below wr.heap.size wr wc := by rw [HD.out]; exact HBX.out.trans (hbc.mono (by have := HBX.out.size; rw [HD.out] at this; exact this))
        obtain ⟨P4, hs4, hn4, h4⟩ := HB.out.adds hb4
        have hrow1 : ∀ g, (u10 : Value).ownBlock = some g → g < D := fun g e => by rw [← HD.out]; exact (HB.out.a1.own.lt g e).2
        have hrow2 : ∀ g, (u11 : Value).ownBlock = some g → g < D := fun g e => by rw [← HD.out]; exact (HB.out.a2.own.lt g e).2
        have hDE : D < E := by omega
        have hDc : D < wc.heap.size := by omega
        have x0 := (hbc.cell (p := ⟨D, 0, none⟩) hDX).trans HDC.out.1
        have x1 := (hbc.cell (p := ⟨D, 1, none⟩) hDX).trans HDC.out.2.1
        have x2 := (hbc.cell (p := ⟨D, 2, none⟩) hDX).trans HDC.out.2.2
        have HDCc := Lib.hid (And.intro x0 (And.intro x1 x2))
        have HLO4 := Lib.hid (And.intro (hn4 D (by rw [HD.out]; exact Nat.le_refl _) hDc) (hn4 E (by rw [HD.out]; omega) hE2))
        have hoA := h4.a1.own.alloc (.cells #[.int .u64 dd, .int .u64 id, .int .i64 (k : Int)] 62)
        rw [htl] at hoA
        have hszA : w3.heap.size ≤ (wc.alloc (.cells #[.int .u64 dd, .int .u64 id, .int .i64 (k : Int)] 62)).heap.size := by have := h4.sz; simp; omega
        have H4 := Lib.hid h4
        have HSP2 := Lib.hid hsp
        have HR1 := Lib.hid hrow1
        have HR2 := Lib.hid hrow2
        have HSZ := Lib.hid (And.intro hDE (And.intro hDc hE2))
        obtain ⟨z0, z1, z2⟩ := hsp
        simp only at z0 z1 z2
        have hcl : cellsS ((spotsL q its).take (k + 1)) = cellsS ((spotsL q its).take k) ++ [.int .u64 dd, .int .u64 id, .int .i64 (k : Int)] := by rw [HT.out, cellsS_snoc]; rfl
        have HCL := Lib.hid hcl
        have hl1 : ((spotsL q its).take (k + 1)).length = k + 1 := by rw [List.length_take, HSL.out]; omega
        have HL1 := Lib.hid hl1
        clear hb4 hs4 hn4 h4 hrow1 hrow2 hDE hDc x0 x1 x2 hbc hE1 hE2 HDT HALL HQW hX0 hcl hl1 HDC HZW HB hDX
        go_upto_region 14 with (at_builtin; refine wpList_append_lies _ rfl _ _ 44 rfl w3.heap.size 62 i0 _ 3 24 Try.underlying44 hi0 hz0 hz1 hz2 rfl (by decide) _ k (cellsS ((spotsL q its).take k)) rfl hoA ⟨wc.heap.size, 0, none⟩ 1 1 [.int .u64 dd, .int .u64 id, .int .i64 (k : Int)] rfl rfl (World.news_of_block (cs := #[.int .u64 dd, .int .u64 id, .int .i64 (k : Int)]) (t := 62) (fr := (0, 0)) (heap_alloc_new wc _)) (by simp [Value.oneCell']) (by decide) (by unfold maxLen; omega) (by omega) hszA (wc.heap.size + 1) (by simp) ?_; intro g cap wc' hown5 hgrow hat hlt5)
        rw [← HCL.out] at hown5
        have hblk : ∀ b, b = D ∨ b = E → wc'.heap[b]? = wc.heap[b]? := fun b hb => by
          obtain ⟨g1, g2, g3⟩ := HSZ.out
          have hbl : b < wc.heap.size := by rcases hb with rfl | rfl <;> omega
          refine (hgrow.block b (by simp; omega) (fun e => ?_)).trans ((below_new3 wc _).block b hbl)
          have := HR1.out b e.symm
          rcases hb with rfl | rfl <;> omega
        obtain ⟨P5, hs5, h5⟩ := (H4.out.later (below_new3 wc (.cells #[.int .u64 dd, .int .u64 id, .int .i64 (k : Int)] 62))).app hgrow hown5 HL1.out (hat.imp (fun e => e) (fun e => by rw [e]; simp)) hlt5
        have y0 := (World.cell?_of_block (a := ⟨D, 0, none⟩) (hblk D (.inl rfl))).trans HDCc.out.1
        have y1 := (World.cell?_of_block (a := ⟨D, 1, none⟩) (hblk D (.inl rfl))).trans HDCc.out.2.1
        have y2 := (World.cell?_of_block (a := ⟨D, 2, none⟩) (hblk D (.inl rfl))).trans HDCc.out.2.2
        have HSP5 := Lib.hid (HSP2.out.same (hblk E (.inr rfl)))
        have HP5 := Lib.hid (And.intro (hs5 D HLO4.out.1) (hs5 E HLO4.out.2))
        have HSZ5 : Hid (wc.heap.size < wc'.heap.size) := by rw [Hid]; have := hgrow.size; simp at this; omega
        have H5 := Lib.hid h5
        have HY := Lib.hid (And.intro y0 (And.intro y1 y2))
        clear hown5 hgrow hat hlt5 hblk hs5 h5 H4 HDCc HLO4 hoA hszA z0 z1 z2 HSP2
        obtain ⟨y0, y1, y2⟩ := HY.out
        obtain ⟨z0, z1, z2⟩ := HSP5.out
        simp only at z0 z1 z2
        by_cases ht : bits .and .u64 tg mask = mask
        · have hsn := HSN.out
          rw [if_pos ht] at hsn
          have HIF : Hid ((if bits .and .u64 tg mask = mask then someL q mask its k ++ [((dd, id), (k : Int))] else someL q mask its k) = someL q mask its (k + 1)) := by rw [Hid, if_pos ht, hsn]
          have hcl : cellsS (someL q mask its (k + 1)) = cellsS (someL q mask its k) ++ [.int .u64 dd, .int .u64 id, .int .i64 (k : Int)] := by rw [hsn, cellsS_snoc]; rfl
          have HCL2 := Lib.hid hcl
          obtain ⟨n2, hn2⟩ : ∃ n2, (someL q mask its k).length = n2 := ⟨_, rfl⟩
          have HL2 : Hid ((someL q mask its (k + 1)).length = n2 + 1) := by rw [Hid, hsn, List.length_append, hn2]; rfl
          have hoA := H5.out.a2.own.alloc (.cells #[.int .u64 dd, .int .u64 id, .int .i64 (k : Int)] 62)
          rw [hn2] at hoA hsl
          have hszA : w3.heap.size ≤ (wc'.alloc (.cells #[.int .u64 dd, .int .u64 id, .int .i64 (k : Int)] 62)).heap.size := by have := H5.out.sz; simp; omega
          clear hsn hcl hn2
          go_upto_region 16 with (at_builtin; refine wpList_append_lies _ rfl _ _ 44 rfl w3.heap.size 62 i0 _ 3 24 Try.underlying44 hi0 hz0 hz1 hz2 rfl (by decide) _ n2 (cellsS (someL q mask its k)) rfl hoA ⟨wc'.heap.size, 0, none⟩ 1 1 [.int .u64 dd, .int .u64 id, .int .i64 (k : Int)] rfl rfl (World.news_of_block (cs := #[.int .u64 dd, .int .u64 id, .int .i64 (k : Int)]) (t := 62) (fr := (0, 0)) (heap_alloc_new wc' _)) (by simp [Value.oneCell']) (by decide) (by unfold maxLen; omega) (by omega) hszA (wc'.heap.size + 1) (by simp) ?_; intro g2 cap2 wc'' hown5 hgrow hat hlt5)
          rw [← HCL2.out] at hown5
          have hblk : wc''.heap[D]? = wc'.heap[D]? := by
            obtain ⟨g1, g2, g3⟩ := HSZ.out
            have g4 := HSZ5.out
            have hbl : D < wc'.heap.size := by omega
            refine (hgrow.block D (by simp; omega) (fun e => ?_)).trans ((below_new3 wc' _).block D hbl)
            have := HR2.out D e.symm
            omega
          obtain ⟨P6, hs6, h6⟩ := ((H5.out.later (below_new3 wc' (.cells #[.int .u64 dd, .int .u64 id, .int .i64 (k : Int)] 62))).swap).app hgrow hown5 HL2.out (hat.imp (fun e => e) (fun e => by rw [e]; simp)) hlt5
          have H6 := Lib.hid h6.swap
          have x0 := (World.cell?_of_block (a := ⟨D, 0, none⟩) hblk).trans y0
          have x1 := (World.cell?_of_block (a := ⟨D, 1, none⟩) hblk).trans y1
          have x2 := (World.cell?_of_block (a := ⟨D, 2, none⟩) hblk).trans y2
          clear hown5 hgrow hat hlt5 hblk hs6 h6 H5 HY HSP5 hoA hszA z0 z1 z2 y0 y1 y2 HP5
          generalize wc'' = W6 at *
          have HOF := Lib.hid (pOffer_new H6.out.pr (k : Int) (by omega) ⟨id, ZA, zv, zc, tg⟩ (vecIn_of HZV.out H6.out.pr.below H6.out.lo) (slotsK_old k) (by omega) (by rw [htl]; omega) (by have := someL_len q mask its k; omega))
          go_wp2_with fail
          refine HOF.out.mono ?_
          rintro e W7 ⟨rfl, h7, hs7⟩
          rw [HDE.out] at h7
          rw [HIF.out, ← HT.out, ← slotsK_next] at h7
          have H7 := Lib.hid (H6.out.probe h7 hs7)
          have HOO := Lib.hid (pOffer_old H7.out.pr (k : Int) (by omega) ⟨0, none, [], 0, 0⟩ (slotsK_new k))
          clear h7 hs7 HOF H6 x0 x1 x2
          go_wp2_with fail
          refine HOO.out.mono ?_
          rintro e W8 ⟨rfl, hb8⟩
          have H8 := Lib.hid (H7.out.later hb8)
          clear hb8 HOO H7
          go_wp2
          go_roundw
          case rel => exact ⟨k + 1, _, by omega, by go_num, H8.out⟩
          case measure => simp [intOf]; omega
        · have ht2 : (bits .and .u64 tg mask == mask) = false := by simpa using ht
          have ht3 : decide (bits .and .u64 tg mask = mask) = false := by simpa using ht
          have hsn := HSN.out
          rw [if_neg ht] at hsn
          have HIF : Hid ((if bits .and .u64 tg mask = mask then someL q mask its k ++ [((dd, id), (k : Int))] else someL q mask its k) = someL q mask its (k + 1)) := by rw [Hid, if_neg ht, hsn]
          have h6' : PR P5 w2 wc' w3.heap.size bp bm bq bl Q' q cq' mask m k (slotsK k) ((spotsL q its).take k) (someL q mask its k) (.slice (some ⟨g, 0, none⟩) (k + 1) cap) ((spotsL q its).take (k + 1)) u11 (someL q mask its (k + 1)) := by rw [hsn]; exact H5.out
          have H6 := Lib.hid h6'
          have x0 := y0
          have x1 := y1
          have x2 := y2
          clear hsn h6' H5 HY HSP5 z0 z1 z2 y0 y1 y2 HP5
          go_upto_region 16 with (fail)
          generalize wc' = W6 at *
          have HOF := Lib.hid (pOffer_new H6.out.pr (k : Int) (by omega) ⟨id, ZA, zv, zc, tg⟩ (vecIn_of HZV.out H6.out.pr.below H6.out.lo) (slotsK_old k) (by omega) (by rw [htl]; omega) (by have := someL_len q mask its k; omega))
          go_wp2_with fail
          refine HOF.out.mono ?_
          rintro e W7 ⟨rfl, h7, hs7⟩
          rw [HDE.out] at h7
          rw [HIF.out, ← HT.out, ← slotsK_next] at h7
          have H7 := Lib.hid (H6.out.probe h7 hs7)
          have HOO := Lib.hid (pOffer_old H7.out.pr (k : Int) (by omega) ⟨0, none, [], 0, 0⟩ (slotsK_new k))
          clear h7 hs7 HOF H6 x0 x1 x2
          go_wp2_with fail
          refine HOO.out.mono ?_
          rintro e W8 ⟨rfl, hb8⟩
          have H8 := Lib.hid (H7.out.later hb8)
          clear hb8 HOO H7
          go_wp2
          go_roundw
          case rel => exact ⟨k + 1, _, by omega, by go_num, H8.out⟩
          case measure => simp [intOf]; omega
    · obtain rfl : k = its.length := by omega
      have hb := HB.out
      rw [List.take_of_length_le (by rw [HSL.out]; exact Nat.le_refl _)] at hb
      have hn60 := N.out
      have hsl := someL_len q mask its its.length
      generalize hSO : someL q mask its its.length = SO at *
      have HLA : Hid ((spotsL q its).length = its.length) := HSL.out
      have hZs : sortS (sortS (spotsL q its)) = sortS (spotsL q its) := sortS_eq (List.Perm.refl _) (sortS_sorted _)
      have HZS := Lib.hid hZs
      have hZl : (sortS (spotsL q its)).length = its.length := by rw [sortS_len, HSL.out]
      have HZL := Lib.hid hZl
      have hZp := (sortS_perm (spotsL q its)).symm
      have HZP := Lib.hid hZp
      obtain ⟨A1, c1, rfl, hc1, hm1⟩ := ownSlice hb.a1.own
      obtain ⟨A2, c2, rfl, hc2, hm2⟩ := ownSlice hb.a2.own
      have HSO := Lib.hid (Sort_own A1 (spotsL q its) c1 (by rw [HSL.out]; omega))
      have HLE := Lib.hid (Least_any A2 SO c2 (min ef 4096) (by omega))
      have hlb := least_best SO ef
      rw [HM.out] at hlb
      have HLB := Lib.hid hlb
      have HFO := Lib.hid (pFound_any hb.pr (by omega))
      have HBB := Lib.hid hb
      clear hb HB hZs hZl hZp hc1 hm1 hc2 hm2 hlb hbel hSO
      go_wp2_with fail
      refine HFO.out.mono ?_
      rintro e W1 ⟨AF, cF, rfl, hrF, -, -, hbF⟩
      have HB1 := Lib.hid (HBB.out.later hbF)
      have HRF := Lib.hid hrF
      clear hrF hbF HFO HBB
      go_wp2_with fail
      refine (HLE.out W1 (rdS_own HB1.out.a2.own)).mono ?_
      rw [HLB.out]
      rintro e W2 ⟨AG, cG, rfl, hrG, -, -, hbG⟩
      have HRF2 := Lib.hid ((HRF.out.below hbG).more hbG.size)
      have HB2' := Lib.hid (HB1.out.later hbG)
      have HSM := Lib.hid (SameS_refl AF AG (keepS m SO) cF cG W2 HRF2.out hrG (by rw [keepS_len]; omega))
      clear hrG hbG HRF HRF2 HB1 HLE
      go_wp2_with fail
      refine HSM.out.mono ?_
      rintro e W4 ⟨rfl, hd⟩
      have HB4 := Lib.hid (HB2'.out.later (hd.below _))
      clear hd HSM HB2'
      go_wp2_with fail
      refine (HSO.out W4 (rdS_own HB4.out.a1.own)).mono ?_
      rintro e W5 ⟨A5, c5, rfl, ho5, hb5⟩
      obtain ⟨P5, hs5, hn5, h5⟩ := HB4.out.adds hb5
      have HR5 : Hid (RowIn P5 W4.heap.size W5 (.slice A5 (sortS (spotsL q its)).length c5) (sortS (spotsL q its))) := ⟨ho5, fun g e => hn5 g (ho5.lt g e).1 (ho5.lt g e).2⟩
      have HP5 := Lib.hid (h5.pr.permQ HZP.out)
      have HSOL : Hid (SO.length ≤ its.length) := hsl
      have HMR : Hid (¬ ef ≤ (its.length : Int) → its.length < m) := Lib.hid fun h => by rw [← HM.out]; unfold bestN; omega
      clear ho5 hb5 hs5 hn5 h5 HB4 HSO HLB hsl HZP
      generalize sortS (spotsL q its) = Z at *
      go_wp2
      have HBW := Lib.hid (HB2.out)
      go_loopw [85, 15] (fun i v wr => ∃ k : Nat, k ≤ its.length ∧ i = .int .i64 k ∧ v = .int .i64 k ∧ Hid (PrbW [] P5 w2 wr bp bm bq bl Q' q cq' mask m its.length (slotsK its.length) (Z.drop k) SO ∧ RowIn P5 W4.heap.size wr (.slice A5 Z.length c5) Z)) (fun i _ _ => its.length - (intOf i).toNat)
      case atStart => exact ⟨0, Nat.zero_le _, rfl, rfl, HP5.out, HR5.out⟩
      case round =>
        clear HP5 HR5
        obtain ⟨k, hk, rfl, rfl, HK⟩ := hrel
        have hn60 := N.out
        by_cases hlt : k < its.length
        · have hkl : (k : Int) < (its.length : Int) := by omega
          have hk0 : (0 : Int) ≤ (k : Int) := by omega
          have hkn : ((k : Int)).toNat = k := Int.toNat_natCast k
          by_cases hh : hopeB m (Z.drop k) SO = true
          · obtain ⟨w1', w2', w3'⟩ := want_drop HZS.out hh
            have HW1 := Lib.hid w1'
            have hkZ : k < Z.length := by rw [HZL.out]; exact hlt
            have HWA := Lib.hid (pWant_any HK.out.1 (by rw [List.length_drop, HZL.out]; omega) (spAt Z k).2 true hh w2')
            clear hh w1' w2' w3'
            go_wp2_with fail
            refine HWA.out.mono ?_
            rintro e W8 ⟨rfl, h8, hs8⟩
            rw [HW1.out] at h8
            have HR8 := Lib.hid (HK.out.2.stay hs8)
            have H8 := Lib.hid h8
            obtain ⟨b, off, rfl, hb, z0, z1, z2⟩ := (rdS_own HR8.out.own) k _ (spAt_lt hkZ)
            have hkz : (k : Int) < (Z.length : Int) := by omega
            generalize (spAt Z k).2 = s at *
            clear h8 hs8 HWA HK z0 z1 hb
            go_wp2
            go_roundw
            case rel => exact ⟨k + 1, by omega, by go_num, by go_num, H8.out, HR8.out⟩
            case measure => simp [intOf]; omega
          · have HH9 : Hid (hopeB m (Z.drop k) SO = false) := by rw [Hid]; simpa using hh
            have HP9 := Lib.hid HK.out.1
            have HKN : Hid (¬ ef ≤ (its.length : Int) → k = its.length) := Lib.hid fun h => by
              have h1 := hope_room HSOL.out (HMR.out (by omega)) HH9.out
              have h2 := congrArg List.length h1
              rw [List.length_drop, HZL.out, List.length_nil] at h2
              omega
            have HW8 := Lib.hid (pWant_any HP9.out (by rw [List.length_drop, HZL.out]; omega) 0 false HH9.out (want_stop HH9.out).2)
            clear hh HK
            go_wp2_with fail
            refine HW8.out.mono ?_
            rintro e W7 ⟨rfl, h7, hs7⟩
            rw [(want_stop HH9.out).1] at h7
            have HP9' := Lib.hid h7
            clear h7 hs7 HW8 HP9
            have HP9 := Lib.hid HP9'.out
            clear HP9'
            have HW9 := Lib.hid (pWant_any HP9.out (by rw [List.length_drop, HZL.out]; omega) 0 false HH9.out (want_stop HH9.out).2)
            go_wp2_with fail
            refine HW9.out.mono ?_
            rintro e W8 ⟨rfl, h8, hs8⟩
            rw [(want_stop HH9.out).1] at h8
            have hwt := pWaits_any h8
            rw [List.length_drop, HZL.out] at hwt
            obtain ⟨u, hu⟩ : ∃ u, its.length - k = u := ⟨_, rfl⟩
            rw [hu] at hwt
            have HWT := Lib.hid hwt
            have HBE := Lib.hid (HBW.out.trans (h8.below.mono HBW.out.size))
            have u1 : (its.length : Int) - (k : Int) = (u : Int) := by omega
            have u2 : IntKind.i64.wrap (u : Int) = (u : Int) := by rw [IntKind.wrap_i64]; omega
            have u3 : IntKind.i64.wrap ((its.length : Int) - (k : Int)) = (u : Int) := by rw [u1, u2]
            clear h8 hs8 HW9 HP9 hwt hu
            by_cases hef : ef ≤ (its.length : Int)
            · have e1 : decide (ef ≤ (its.length : Int)) = true := decide_eq_true hef
              go_wp2_with fail
              refine HWT.out.mono ?_
              rintro e W9 ⟨rfl, rfl⟩
              go_wp2
              go_ret
              exact ⟨rfl, HBE.out⟩
            · have hkn9 := HKN.out (by omega)
              have e1 : decide (ef ≤ (its.length : Int)) = false := decide_eq_false hef
              have e2 : (k : Int) = (its.length : Int) := by omega
              have e3 : ((k : Int) == (its.length : Int)) = true := by simpa using e2
              have e4 : decide ((k : Int) = (its.length : Int)) = true := decide_eq_true e2
              have e5 : (k == its.length) = true := by simpa using hkn9
              have e6 : decide (k = its.length) = true := decide_eq_true hkn9
              clear hkn9 e2
              go_wp2_with fail
              refine HWT.out.mono ?_
              rintro e W9 ⟨rfl, rfl⟩
              go_wp2
              go_ret
              exact ⟨rfl, HBE.out⟩
  
        · have hke : k = its.length := by omega
          have HP9 := Lib.hid HK.out.1
          have HH9 : Hid (hopeB m (Z.drop k) SO = false) := by rw [Hid, hke, ← HZL.out]; exact hope_end
          have HKN : Hid (¬ ef ≤ (its.length : Int) → k = its.length) := Lib.hid fun _ => hke
          clear HK hke
          have HW9 := Lib.hid (pWant_any HP9.out (by rw [List.length_drop, HZL.out]; omega) 0 false HH9.out (want_stop HH9.out).2)
          go_wp2_with fail
          refine HW9.out.mono ?_
          rintro e W8 ⟨rfl, h8, hs8⟩
          rw [(want_stop HH9.out).1] at h8
          have hwt := pWaits_any h8
          rw [List.length_drop, HZL.out] at hwt
          obtain ⟨u, hu⟩ : ∃ u, its.length - k = u := ⟨_, rfl⟩
          rw [hu] at hwt
          have HWT := Lib.hid hwt
          have HBE := Lib.hid (HBW.out.trans (h8.below.mono HBW.out.size))
          have u1 : (its.length : Int) - (k : Int) = (u : Int) := by omega
          have u2 : IntKind.i64.wrap (u : Int) = (u : Int) := by rw [IntKind.wrap_i64]; omega
          have u3 : IntKind.i64.wrap ((its.length : Int) - (k : Int)) = (u : Int) := by rw [u1, u2]
          clear h8 hs8 HW9 HP9 hwt hu
          by_cases hef : ef ≤ (its.length : Int)
          · have e1 : decide (ef ≤ (its.length : Int)) = true := decide_eq_true hef
            go_wp2_with fail
            refine HWT.out.mono ?_
            rintro e W9 ⟨rfl, rfl⟩
            go_wp2
            go_ret
            exact ⟨rfl, HBE.out⟩
          · have hkn9 := HKN.out (by omega)
            have e1 : decide (ef ≤ (its.length : Int)) = false := decide_eq_false hef
            have e2 : (k : Int) = (its.length : Int) := by omega
            have e3 : ((k : Int) == (its.length : Int)) = true := by simpa using e2
            have e4 : decide ((k : Int) = (its.length : Int)) = true := decide_eq_true e2
            have e5 : (k == its.length) = true := by simpa using hkn9
            have e6 : decide (k = its.length) = true := decide_eq_true hkn9
            clear hkn9 e2
            go_wp2_with fail
            refine HWT.out.mono ?_
            rintro e W9 ⟨rfl, rfl⟩
            go_wp2
            go_ret
            exact ⟨rfl, HBE.out⟩


end Go.Proofs.Ytajmnhnepoomjaa
