/- The document's own hits in order (ganglionref13.Hits), by contract. -/
import Derived.Test.YtajmnhnepoomjaaExFew
import Derived.Test.YtajmnhnepoomjaaRefPush
import Derived.Test.YtajmnhnepoomjaaOwnKept
import Derived.Test.YtajmnhnepoomjaaRefDist
namespace Go.Proofs.Ytajmnhnepoomjaa
open Go.RowKit Go.Shelf Go.Sort Go.Lib

theorem VecB.refDist {w : World} {B : Nat} {A A' : Option Addr} {xs ys : List Int} (hA : VecB w B A xs) (hB : VecB w B A' ys) (ca cb : Nat) :
    Calls Try.prog 78 #[.slice A xs.length ca, .slice A' ys.length cb] w fun e w' => e = .returned (.int .u64 (satN (distN xs ys (max xs.length ys.length)))) ∧ w = w' :=
  refDist_any A A' xs ys ca cb w hA.rd hB.rd hA.len hB.len hA.all hB.all

/-- A hit as a spot at slot 0. -/
def zeroS (h : HitT) : SpotT := (h, 0)
def rawS (q : List Int) (m : Int) (its : List ItT) : List SpotT := (hitsL q m its).map zeroS
theorem rawS_le (q : List Int) (m : Int) (its : List ItT) : (rawS q m its).length ≤ its.length := by
  unfold rawS
  rw [List.length_map]
  exact hitsL_le q m its
theorem rawS_yes (q : List Int) (m : Int) (its : List ItT) (k : Nat) (h : k < its.length) (ht : bits .and .u64 its[k].tags m = m) : rawS q m (its.take (k + 1)) = rawS q m (its.take k) ++ [((distI q its[k], its[k].id), 0)] := by
  unfold rawS hitsL
  have e : tagsOk m its[k] = true := by unfold tagsOk; simpa using ht
  rw [List.take_succ_eq_append_getElem h, List.filter_append, List.map_append, List.map_append, List.filter_cons_of_pos e]
  rfl
theorem rawS_no (q : List Int) (m : Int) (its : List ItT) (k : Nat) (h : k < its.length) (ht : ¬ bits .and .u64 its[k].tags m = m) : rawS q m (its.take (k + 1)) = rawS q m (its.take k) := by
  unfold rawS hitsL
  have e : ¬ tagsOk m its[k] = true := by unfold tagsOk; simpa using ht
  rw [List.take_succ_eq_append_getElem h, List.filter_append, List.map_append, List.map_append, List.filter_cons_of_neg e]
  simp
theorem sort_raw (q : List Int) (m : Int) (its : List ItT) : sortS (rawS q m its) = (ordH q m its).map zeroS := by
  refine sortS_eq ((sortH_perm _).map zeroS) (List.pairwise_map.2 ((sortH_sorted _).imp fun {x y} h => ?_))
  rw [leH_iff] at h
  rw [leS_iff]
  cases e : ltS (zeroS y) (zeroS x)
  · rfl
  · have h2 := (ltS_iff _ _).1 e
    unfold zeroS at h2
    have : ltH y x = true := (ltH_iff y x).2 (by simp only at h2; omega)
    rw [this] at h
    cases h
theorem ownNone {w : World} {base : Nat} {e : TypeId} {size n c : Nat} {A : Option Addr} {xs : List Value} (h : w.ownsRow base e size (.slice A n c) n xs) : A = none → c = 0 := by
  intro hn
  subst hn
  rcases h.2 with ⟨hv, _⟩ | ⟨g', cap, cur, hv, _⟩
  · injection hv
  · injection hv with hv
    cases hv
theorem rdH_own {w : World} {base c : Nat} {A : Option Addr} {L : List HitT} (h : w.ownsRow base 26 2 (.slice A L.length c) L.length (cellsH L)) : RdH w w.heap.size A L := by
  intro k z hz
  obtain ⟨hk, rfl⟩ := List.getElem?_eq_some_iff.1 hz
  obtain ⟨g, rfl, hg, hgw⟩ := ownPos h (by omega)
  have gc : ∀ r, r < 2 → w.cell? ⟨g, k * 2 + r, none⟩ = some ((encH L[k])[r]!) := fun r hr => by
    rw [h.cellAt (k * 2 + r) (by omega), cellsH_get L k r hk hr]
  exact ⟨g, 0, rfl, hgw, by rw [Nat.zero_add]; exact gc 0 (by decide), by rw [Nat.zero_add]; exact gc 1 (by decide)⟩
theorem newsH {W : World} {o : Obj} {k : Nat} {xa xb : Value} (hk : k = W.heap.size) (ho : o = .cells #[xa, xb] 26) : ∀ ad, (some (⟨k, 0, none⟩ : Addr)) = some ad → ∀ (j : Nat) u, ([xa, xb] : List Value)[j]? = some u → (W.alloc o).cell? (ad.add j) = some u := by
  subst hk
  subst ho
  intro ad had j u hu
  injection had with had
  subst had
  match j, hu with
  | 0, hu => simp at hu; subst hu; go_cell
  | 1, hu => simp at hu; subst hu; go_cell
/-- What a round keeps: the item in its block. -/
theorem item_all {X W : World} {b : Nat} {id : Int} {ZA : Option Addr} {n c : Nat} (hlt : b < X.heap.size) (h0 : X.cell? ⟨b, 0, none⟩ = some (.int .u64 id)) (h1 : X.cell? ⟨b, 1, none⟩ = some (.slice ZA n c)) (hb : Below X.heap.size X W) :
    Below X.heap.size X W ∧ W.cell? ⟨b, 0, none⟩ = some (.int .u64 id) ∧ W.cell? ⟨b, 1, none⟩ = some (.slice ZA n c) :=
  ⟨hb, (hb.cell (p := ⟨b, 0, none⟩) hlt).trans h0, (hb.cell (p := ⟨b, 1, none⟩) hlt).trans h1⟩

set_option maxRecDepth 100000 in
set_option maxHeartbeats 4000000 in
theorem refHits_any (A : Option Addr) (its : List ItT) (ca : Nat) (Q : Option Addr) (q : List Int) (cq : Nat) (mask : Int) (hl : its.length ≤ 1000) (w : World) (hI : ItemsAt w w.heap.size A its) (hQ : VecB w w.heap.size Q q) :
    Calls Try.prog 65 #[.slice A its.length ca, .slice Q q.length cq, .int .u64 mask] w (HitsOut (ordH q mask its) w) := by
  have mixed : Try.prog.follows .mixedOrders = true := by kernel_rfl
  obtain ⟨i0, hi0, hz0, hz1, hz2⟩ := info_parts info_spot
  have HQ := Lib.hid hQ
  have HI := Lib.hid hI
  have HL := Lib.hid hl
  clear hQ hI hl
  go_enter Try.func65, Try.ntmps65
  go_wp2
  go_loopw [15, 7] (fun i v wr => ∃ k : Nat, k ≤ its.length ∧ i = .int .i64 k ∧ wr.ownsRow w.heap.size 62 3 v (rawS q mask (its.take k)).length (cellsS (rawS q mask (its.take k))) ∧ Below w.heap.size w wr) (fun i _ _ => its.length - (intOf i).toNat)
  case atStart => exact ⟨0, Nat.zero_le _, rfl, World.ownsRow_nil _ _ _ _, Below.refl _ _⟩
  case round =>
    obtain ⟨k, hk, rfl, hown, hbel⟩ := hrel
    have HBL := Lib.hid hbel
    by_cases hlt : k < its.length
    · obtain ⟨⟨b, off, rfl, hb, h0, h1, h2⟩, hZ⟩ := (HI.out.below hbel) k _ (List.getElem?_eq_getElem hlt)
      have HNO := Lib.hid (rawS_no q mask its k hlt)
      have HYES : Hid (bits .and .u64 its[k].tags mask = mask → cellsS (rawS q mask (its.take (k + 1))) = cellsS (rawS q mask (its.take k)) ++ encS ((distI q its[k], its[k].id), 0) ∧ (rawS q mask (its.take (k + 1))).length = (rawS q mask (its.take k)).length + 1) := Lib.hid fun ht => by
        rw [rawS_yes q mask its k hlt ht, cellsS_snoc, List.length_append]
        exact ⟨rfl, rfl⟩
      have hle : (rawS q mask (its.take k)).length ≤ 1000 := by
        have h1 := rawS_le q mask (its.take k)
        rw [List.length_take] at h1
        have := HL.out
        omega
      generalize its[k] = z at *
      obtain ⟨id, ZA, zv, zc, tg⟩ := z
      simp only at h0 h1 h2 hZ HYES HNO
      have hk1000 : k ≤ 1000 := by have := HL.out; omega
      have hkl : (k : Int) < (its.length : Int) := by omega
      have hk0 : (0 : Int) ≤ (k : Int) := by omega
      have hkn : ((k : Int)).toNat = k := Int.toNat_natCast k
      have hbX := below_new3 wr (.cells #[.int .u64 id, .slice ZA zv.length zc, .int .u64 tg] 36)
      have HBX := Lib.hid (HBL.out.trans (hbX.mono HBL.out.size))
      by_cases ht : bits .and .u64 tg mask = mask
      · obtain ⟨hY1, hY2⟩ := HYES.out ht
        have HY1 := Lib.hid hY1
        have HY2 := Lib.hid hY2
        clear hY1 hY2 HYES HNO
        generalize hR : rawS q mask (its.take k) = R at *
        generalize hn : R.length = n at *
        have HVQ := Lib.hid ((HQ.out.below HBL.out).more HBL.out.size)
        have HVZ := Lib.hid (hZ.more HBL.out.size)
        have HOX := Lib.hid (hown.alloc (.cells #[.int .u64 id, .slice ZA zv.length zc, .int .u64 tg] 36))
        have HVQ2 := Lib.hid ((HVQ.out.below hbX).more hbX.size)
        have HVZ2 := Lib.hid ((HVZ.out.below hbX).more hbX.size)
        have b0 : (wr.alloc (.cells #[.int .u64 id, .slice ZA zv.length zc, .int .u64 tg] 36)).cell? ⟨wr.heap.size, 0, none⟩ = some (.int .u64 id) := by go_cell
        have b1 : (wr.alloc (.cells #[.int .u64 id, .slice ZA zv.length zc, .int .u64 tg] 36)).cell? ⟨wr.heap.size, 1, none⟩ = some (.slice ZA zv.length zc) := by go_cell
        have hsz : wr.heap.size < (wr.alloc (.cells #[.int .u64 id, .slice ZA zv.length zc, .int .u64 tg] 36)).heap.size := by simp
        have HOWD : Hid (∀ p, (u7 : Value).ownBlock = some p → p < wr.heap.size) := Lib.hid fun p e => (hown.lt p e).2
        clear hown hbel hZ hbX HVQ HVZ hb hR hn
        go_upto_region 6 with (fail)
        generalize wr.alloc (.cells #[.int .u64 id, .slice ZA zv.length zc, .int .u64 tg] 36) = X at *
        generalize wr.heap.size = D at *
        clear h0 h1 h2
        have HALL := Lib.hid (fun W hb => item_all (W := W) hsz b0 b1 hb)
        have hX0 := Below.refl X.heap.size X
        have l4 : n + 1 ≤ maxLen := by unfold maxLen; omega
        have l5 : (n + 1) * 24 ≤ 140737488355328 := by omega
        have HDI : Hid (distI q ⟨id, ZA, zv, zc, tg⟩ = satN (distN q zv (max q.length zv.length))) := rfl
        have HDX : Hid (∀ ca cb, Calls Try.prog 78 #[.slice Q q.length ca, .slice ZA zv.length cb] X.drew fun e w' => e = .returned (.int .u64 (satN (distN q zv (max q.length zv.length)))) ∧ Below X.heap.size X w') := Lib.hid fun ca cb => (VecB.refDist (HVQ2.out.below (below_draws X 1 _)) (HVZ2.out.below (below_draws X 1 _)) ca cb).mono fun _ _ ⟨he, hb⟩ => ⟨he, by rw [← hb]; exact below_draws X 1 _⟩
        have HDY : Hid (∀ ca cb, Calls Try.prog 78 #[.slice Q q.length ca, .slice ZA zv.length cb] X fun e w' => e = .returned (.int .u64 (satN (distN q zv (max q.length zv.length)))) ∧ Below X.heap.size X w') := Lib.hid fun ca cb => (VecB.refDist HVQ2.out HVZ2.out ca cb).mono fun _ _ ⟨he, hb⟩ => ⟨he, by rw [← hb]; exact Below.refl _ _⟩
        clear b0 b1
        have hlowD : ∀ p, (u7 : Value).ownBlock = some p → p < D := fun p e => HOWD.out p e
        go_region_held3 (fun W => W.cell? ⟨D, 0, none⟩ = some (.int .u64 id) ∧ W.cell? ⟨D, 1, none⟩ = some (.slice ZA zv.length zc))
          (with_reducible first | assumption | exact (HALL.out _ (by assumption)).2 | exact (HALL.out _ (below_drew (by assumption))).2 | exact (HALL.out _ (below_allocS (by assumption) _)).2 | exact (HALL.out _ (below_drew (below_allocS (by assumption) _))).2)
          (first
            | (go_at_call 78; (with_reducible first | refine Calls.mono (HDX.out cq zc) ?_ | refine Calls.mono (HDY.out cq zc) ?_); rw [← HDI.out]; rintro e W1 ⟨rfl, hb1⟩)
            | (refine step_append_cells (by rfl) _ _ 44 (by rfl) w.heap.size 62 i0 _ 3 24 Try.underlying44 hi0 hz0 hz1 hz2 rfl (by decide) u7 n (cellsS R) (by rfl) ((own_kept HOX.out (fun p e => hb1.block p (Nat.lt_trans (hlowD p e) hsz))).alloc _) (some ⟨W1.heap.size, 0, none⟩) 1 1 [.int .u64 (distI q ⟨id, ZA, zv, zc, tg⟩), .int .u64 id, .int .i64 0] (by rfl) (by rfl) (fun e => by cases e) (one_news (heap_alloc_new W1 _)) (by simp [Value.oneCell']) l4 l5 (by have := hb1.size; have := HBX.out.size; simp; omega) ?_; intro v2 W2 hown2 hg2; have hs0 := hg2.cell_far (a := ⟨D, 0, none⟩) (by have := hb1.size; simp; omega) (fun e => absurd (hlowD D e.symm) (Nat.lt_irrefl _)); have hs1 := hg2.cell_far (a := ⟨D, 1, none⟩) (by have := hb1.size; simp; omega) (fun e => absurd (hlowD D e.symm) (Nat.lt_irrefl _)); have hS := And.intro (hs0.trans (HALL.out _ (below_allocS hb1 _)).2.1) (hs1.trans (HALL.out _ (below_allocS hb1 _)).2.2); clear hs0 hs1))
        have hb2 := ownBase ((own_kept HOX.out (fun p e => hb1.block p (Nat.lt_trans (hlowD p e) hsz))).alloc _) ((HBX.out.trans (hb1.mono HBX.out.size)).alloc (Nat.le_trans HBX.out.size hb1.size) _) (Nat.le_refl _) (by have := hb1.size; have := HBX.out.size; simp; omega) hg2
        have hown3 : W2.ownsRow w.heap.size 62 3 v2 (n + 1) (cellsS (rawS q mask (its.take (k + 1)))) := by rw [HY1.out]; exact hown2
        clear hown2 hg2 hlowD
        go_wp2
        go_roundw
        case rel => exact ⟨k + 1, by omega, by go_num, by rw [HY2.out]; exact hown3, hb2⟩
        case measure => simp [intOf]; omega
      · have ht2 : (bits .and .u64 tg mask == mask) = false := by simpa using ht
        have ht3 : decide (bits .and .u64 tg mask = mask) = false := by simpa using ht
        have hN := HNO.out ht
        have HN := Lib.hid hN
        have HOX := Lib.hid (hown.alloc (.cells #[.int .u64 id, .slice ZA zv.length zc, .int .u64 tg] 36))
        clear hN HNO HYES hown
        go_wp2
        go_roundw
        case rel => exact ⟨k + 1, by omega, by go_num, by rw [HN.out]; exact HOX.out, HBX.out⟩
        case measure => simp [intOf]; omega
    · obtain rfl : k = its.length := by omega
      rw [List.take_of_length_le (Nat.le_refl _)] at hown
      have HSR := Lib.hid (sort_raw q mask its)
      have hle := rawS_le q mask its
      generalize rawS q mask its = R at *
      obtain ⟨A2, c2, rfl, hc2, hm2⟩ := ownSlice hown
      have hlo := ordH_len q mask its
      obtain ⟨H, hH⟩ : ∃ H, ordH q mask its = H := ⟨_, rfl⟩
      rw [hH] at HSR hlo
      have HH := Lib.hid hH
      have hs2 := refSort_any A2 R c2 (by have := HL.out; omega) (ownNone hown) wr (rdS_own hown)
      rw [HSR.out] at hs2
      have HS2 := Lib.hid hs2
      have HLO : Hid (H.length ≤ 1000) := by rw [Hid]; have := HL.out; omega
      clear hown hs2 HSR hH hle hlo
      obtain ⟨j0, hj0, hy0, hy1, hy2⟩ := info_parts info_hit
      go_wp2_with fail
      refine HS2.out.mono ?_
      rintro e w2 ⟨A3, c3, rfl, hr3, hc3, hm3, hb3⟩
      rw [List.length_map]
      have HR3 := Lib.hid hr3
      have HB3 := Lib.hid (hbel.trans (hb3.mono hbel.size))
      clear hr3 hb3 HS2 hc3 hm3 hbel
      go_wp2
      go_loopw [40, 10] (fun i v wr => ∃ k : Nat, k ≤ H.length ∧ i = .int .i64 k ∧ wr.ownsRow w2.heap.size 26 2 v k (cellsH (H.take k)) ∧ Below w2.heap.size w2 wr) (fun i _ _ => H.length - (intOf i).toNat)
      case atStart => exact ⟨0, Nat.zero_le _, rfl, World.ownsRow_nil _ _ _ _, Below.refl _ _⟩
      case round =>
        obtain ⟨k, hk, rfl, hown, hbel⟩ := hrel
        have hll := HLO.out
        by_cases hlt : k < H.length
        · obtain ⟨b, off, rfl, hb, h0, h1, h2⟩ := HR3.out k (zeroS H[k]) (by rw [List.getElem?_map, List.getElem?_eq_getElem hlt]; rfl)
          replace h0 := (hbel.cell (p := ⟨b, off + k * 3, none⟩) hb).trans h0
          replace h1 := (hbel.cell (p := ⟨b, off + k * 3 + 1, none⟩) hb).trans h1
          replace h2 := (hbel.cell (p := ⟨b, off + k * 3 + 2, none⟩) hb).trans h2
          have HT : Hid (cellsH (H.take (k + 1)) = cellsH (H.take k) ++ encH H[k]) := by rw [Hid, List.take_succ_eq_append_getElem hlt, cellsH_snoc]
          generalize H[k] = x at *
          obtain ⟨xa, xb⟩ := x
          simp only [zeroS] at h0 h1 h2
          have hkl : (k : Int) < (H.length : Int) := by omega
          have hk0 : (0 : Int) ≤ (k : Int) := by omega
          have hkn : ((k : Int)).toNat = k := Int.toNat_natCast k
          have l4 : k + 1 ≤ maxLen := by unfold maxLen; omega
          have l5 : (k + 1) * 16 ≤ 140737488355328 := by omega
          have hbA := (hbel.alloc hbel.size (.cells #[.int .u64 xa, .int .u64 xb, .int .i64 0] 62)).alloc (by have := hbel.size; simp; omega) (.cells #[.int .u64 xa, .int .u64 xb] 26)
          have hownA := (hown.alloc (.cells #[.int .u64 xa, .int .u64 xb, .int .i64 0] 62)).alloc (.cells #[.int .u64 xa, .int .u64 xb] 26)
          have HBA := Lib.hid hbA
          have l6 := hbA.size
          clear hown hbel hbA
          go_wp2_with (at_builtin; refine' wpList_append_cells rfl _ _ 30 rfl w2.heap.size 26 j0 _ 2 16 Try.underlying30 hj0 hy0 hy1 hy2 rfl (by decide) _ k (cellsH (H.take k)) rfl hownA _ 1 1 [.int .u64 xa, .int .u64 xb] rfl rfl (fun e => by cases e) (newsH (W := wr.alloc (.cells #[.int .u64 xa, .int .u64 xb, .int .i64 0] 62)) (by simp) rfl) (by simp [Value.oneCell']) l4 l5 l6 _; intro v2 W2 hown2 hg2)
          have hb2 := ownBase hownA HBA.out (Nat.le_refl _) l6 hg2
          have hown3 : W2.ownsRow w2.heap.size 26 2 v2 (k + 1) (cellsH (H.take (k + 1))) := by rw [HT.out]; exact hown2
          clear hown2 hg2 hownA
          go_roundw
          case rel => exact ⟨k + 1, by omega, by go_num, hown3, hb2⟩
          case measure => simp [intOf]; omega
        · obtain rfl : k = H.length := by omega
          rw [List.take_of_length_le (Nat.le_refl _)] at hown
          obtain ⟨A4, c4, rfl, hc4, hm4⟩ := ownSlice hown
          have HR4 := Lib.hid (rdH_own hown)
          have HB4 := Lib.hid (HB3.out.trans (hbel.mono HB3.out.size))
          clear hown hbel
          go_wp2
          go_ret
          rw [HH.out]
          exact ⟨A4, c4, rfl, HR4.out, hc4, hm4, HB4.out⟩

end Go.Proofs.Ytajmnhnepoomjaa
