/- More of the same (ExactMore), walked. -/
import Derived.Test.YtajmnhnepoomjaaExFew
import Derived.Test.YtajmnhnepoomjaaOwnKept
import Derived.Lib.QuietBelow
namespace Go.Proofs.Ytajmnhnepoomjaa
open Go.RowKit Go.Shelf Go.Sort Go.Lib

theorem more_take (q : List Int) (m : Int) (its : List ItT) {k1 k2 : Int} (h : k1 ≤ k2) : (searchL q m its k2).take (searchL q m its k1).length = searchL q m its k1 := by
  unfold searchL
  rw [List.take_take, List.length_take, List.take_eq_take_iff]
  omega
theorem search_len (q : List Int) (m : Int) (its : List ItT) (k : Int) : ((searchL q m its k).length : Int) ≤ max 0 k ∧ (searchL q m its k).length ≤ its.length := by
  have := ordH_len q m its
  unfold searchL
  rw [List.length_take]
  omega
theorem search_le (q : List Int) (m : Int) (its : List ItT) {k1 k2 : Int} (h : k1 ≤ k2) : (searchL q m its k1).length ≤ (searchL q m its k2).length := by
  unfold searchL
  rw [List.length_take, List.length_take]
  omega
theorem search_get (q : List Int) (m : Int) (its : List ItT) (k : Int) (i : Nat) (h : i < (searchL q m its k).length) : ∃ h2 : i < (ordH q m its).length, (searchL q m its k)[i] = (ordH q m its)[i] := by
  have h2 : i < (ordH q m its).length := by
    unfold searchL at h
    rw [List.length_take] at h
    omega
  exact ⟨h2, List.getElem_take⟩
/-- The cells of a round: the hit at D, the item at E. -/
structure Six (V : World) (D E : Nat) (xd xi id : Int) (sv : Value) (tg : Int) : Prop where
  lD : D < V.heap.size
  lE : E < V.heap.size
  d0 : V.cell? ⟨D, 0, none⟩ = some (.int .u64 xd)
  d1 : V.cell? ⟨D, 1, none⟩ = some (.int .u64 xi)
  e0 : V.cell? ⟨E, 0, none⟩ = some (.int .u64 id)
  e1 : V.cell? ⟨E, 1, none⟩ = some sv
  e2 : V.cell? ⟨E, 2, none⟩ = some (.int .u64 tg)
theorem Six.all {V W : World} {D E : Nat} {xd xi id : Int} {sv : Value} {tg : Int} (h : Six V D E xd xi id sv tg) (hb : Below V.heap.size V W) :
    Below V.heap.size V W ∧ W.cell? ⟨D, 0, none⟩ = some (.int .u64 xd) ∧ W.cell? ⟨D, 1, none⟩ = some (.int .u64 xi) ∧ W.cell? ⟨E, 0, none⟩ = some (.int .u64 id) ∧ W.cell? ⟨E, 1, none⟩ = some sv ∧ W.cell? ⟨E, 2, none⟩ = some (.int .u64 tg) :=
  ⟨hb, (hb.cell (p := ⟨D, 0, none⟩) h.lD).trans h.d0, (hb.cell (p := ⟨D, 1, none⟩) h.lD).trans h.d1, (hb.cell (p := ⟨E, 0, none⟩) h.lE).trans h.e0, (hb.cell (p := ⟨E, 1, none⟩) h.lE).trans h.e1, (hb.cell (p := ⟨E, 2, none⟩) h.lE).trans h.e2⟩
theorem newsT {W : World} {o : Obj} {xa xb xc : Value} (ho : o = .cells #[xa, xb, xc] 36) : ∀ ad, (some (⟨W.heap.size, 0, none⟩ : Addr)) = some ad → ∀ (j : Nat) u, ([xa, xb, xc] : List Value)[j]? = some u → (W.alloc o).cell? (ad.add j) = some u := by
  subst ho
  intro ad had j u hu
  injection had with had
  subst had
  match j, hu with
  | 0, hu => simp at hu; subst hu; go_cell
  | 1, hu => simp at hu; subst hu; go_cell
  | 2, hu => simp at hu; subst hu; go_cell
/-- The cells of a round's end: the hit at D, the hit ahead of it. -/
structure Four (V : World) (D b o : Nat) (xd xi yd yi : Int) : Prop where
  lD : D < V.heap.size
  lb : b < V.heap.size
  d0 : V.cell? ⟨D, 0, none⟩ = some (.int .u64 xd)
  d1 : V.cell? ⟨D, 1, none⟩ = some (.int .u64 xi)
  z0 : V.cell? ⟨b, o, none⟩ = some (.int .u64 yd)
  z1 : V.cell? ⟨b, o + 1, none⟩ = some (.int .u64 yi)
theorem Four.all {V W : World} {D b o : Nat} {xd xi yd yi : Int} (h : Four V D b o xd xi yd yi) (hb : Below V.heap.size V W) :
    Below V.heap.size V W ∧ W.cell? ⟨D, 0, none⟩ = some (.int .u64 xd) ∧ W.cell? ⟨D, 1, none⟩ = some (.int .u64 xi) ∧ W.cell? ⟨b, o, none⟩ = some (.int .u64 yd) ∧ W.cell? ⟨b, o + 1, none⟩ = some (.int .u64 yi) :=
  ⟨hb, (hb.cell (p := ⟨D, 0, none⟩) h.lD).trans h.d0, (hb.cell (p := ⟨D, 1, none⟩) h.lD).trans h.d1, (hb.cell (p := ⟨b, o, none⟩) h.lb).trans h.z0, (hb.cell (p := ⟨b, o + 1, none⟩) h.lb).trans h.z1⟩
theorem belowDr {X Y : World} {B : Nat} (h : Below B X Y) : Below B X Y.drew := h.trans (below_draws _ 1 _)
/-- What is asked of a hit found. -/
structure More (q : List Int) (m : Int) (its : List ItT) (Y : List HitT) (i : Nat) (x : HitT) : Prop where
  is : its.any (isIt q m x) = true
  place : placeN q m its x ≤ i
  prev : ∀ r, i = r + 1 → ∃ y, Y[r]? = some y ∧ ltH x y = false
theorem more_of (q : List Int) (m : Int) (its : List ItT) (k : Int) (i : Nat) (h : i < (searchL q m its k).length) : More q m its (searchL q m its k) i (searchL q m its k)[i] := by
  obtain ⟨h2, e⟩ := search_get q m its k i h
  refine ⟨isIt_ex q m its _ (by rw [e]; exact List.getElem_mem h2), by rw [e]; exact place_at q m its i h2, fun r hr => ?_⟩
  obtain ⟨h3, e3⟩ := search_get q m its k r (by omega)
  exact ⟨_, List.getElem?_eq_getElem (by omega), by rw [e, e3]; exact ordH_le q m its r i h2 (by omega)⟩
/-- Those as near as the last one found begin with those found. -/
theorem within_take (q : List Int) (m : Int) (its : List ItT) (k : Int) (_h : (searchL q m its k).length ≠ 0) (h2 : (searchL q m its k).length - 1 < (searchL q m its k).length) :
    (searchL q m its k).length ≤ (withinL q m its ((searchL q m its k)[(searchL q m its k).length - 1].1)).length ∧ (withinL q m its ((searchL q m its k)[(searchL q m its k).length - 1].1)).take (searchL q m its k).length = searchL q m its k := by
  obtain ⟨c, h4, h5⟩ := withinL_take q m its ((searchL q m its k)[(searchL q m its k).length - 1].1)
  obtain ⟨h6, h7⟩ := search_get q m its k _ h2
  have h8 := (h5 _ h6).1 (by rw [h7]; exact Int.le_refl _)
  rw [h4, List.take_take, List.length_take]
  have h9 : (searchL q m its k).length ≤ (ordH q m its).length := by unfold searchL; rw [List.length_take]; omega
  refine ⟨by omega, ?_⟩
  rw [show min (searchL q m its k).length c = (searchL q m its k).length by omega]
  have h10 : (searchL q m its k).length = min k.toNat (ordH q m its).length := by unfold searchL; rw [List.length_take]
  rw [h10]
  unfold searchL
  rw [List.take_eq_take_iff]
  omega

set_option maxRecDepth 100000 in
set_option maxHeartbeats 8000000 in
theorem ExactMore_raw (A : Option Addr) (its : List ItT) (ca : Nat) (Q : Option Addr) (q : List Int) (cq : Nat) (mask a b : Int) (w : World) (hI : ItemsAt w w.heap.size A its) (_hil : its.length ≤ 9223372036854775807) (hQ : VecB w w.heap.size Q q) (_ha : -9223372036854775808 ≤ a ∧ a ≤ 9223372036854775807) (_hb : -9223372036854775808 ≤ b ∧ b ≤ 9223372036854775807) :
    Calls Try.prog 4 #[.slice A its.length ca, .slice Q q.length cq, .int .u64 mask, .int .i64 a, .int .i64 b] w fun e w' => e = .returned (.bool true) ∧ Below w.heap.size w w' := by
  have mixed : Try.prog.follows .mixedOrders = true := by kernel_rfl
  have HI := Lib.hid hI
  have HQ := Lib.hid hQ
  clear hI hQ
  go_enter Try.func4, Try.ntmps4
  go_wp2_with fail
  refine (ex_lives_any w).mono ?_
  rintro e w1 ⟨rfl, hb1⟩
  have HI1 := Lib.hid ((HI.out.below hb1).more hb1.size)
  have HQ1 := Lib.hid ((HQ.out.below hb1).more hb1.size)
  have HB1 := Lib.hid hb1
  clear hb1 HI HQ
  go_wp2_with fail
  refine (few_any A its ca w1 HI1.out).mono ?_
  rintro e w2 ⟨bf, rfl, hf, hb2⟩
  have HB2 := Lib.hid (HB1.out.trans (hb2.mono HB1.out.size))
  cases bf
  · clear hf
    go_wp2
    go_ret
    exact ⟨rfl, HB2.out⟩
  have N := Lib.hid (hf rfl)
  have HI2 := Lib.hid ((HI1.out.below hb2).more hb2.size)
  have HQ2 := Lib.hid ((HQ1.out.below hb2).more hb2.size)
  clear hb2 hf HI1 HQ1 HB1
  go_wp2_with fail
  refine (Search_any A its ca Q q cq mask (min a b) (by have := N.out; omega) w2 HI2.out HQ2.out).mono ?_
  rintro e w3 ⟨A1, c1, rfl, hr1, -, -, hb3⟩
  have HI3 := Lib.hid ((HI2.out.below hb3).more hb3.size)
  have HQ3 := Lib.hid ((HQ2.out.below hb3).more hb3.size)
  have HB3 := Lib.hid (HB2.out.trans (hb3.mono HB2.out.size))
  have HR1 := Lib.hid hr1
  clear hr1 hb3 HI2 HQ2 HB2
  go_wp2_with fail
  refine (Search_any A its ca Q q cq mask (max a b) (by have := N.out; omega) w3 HI3.out HQ3.out).mono ?_
  rintro e w4 ⟨A2, c2, rfl, hr2, hc2, -, hb4⟩
  have HI4 := Lib.hid ((HI3.out.below hb4).more hb4.size)
  have HQ4 := Lib.hid ((HQ3.out.below hb4).more hb4.size)
  have HB4 := Lib.hid (HB3.out.trans (hb4.mono HB3.out.size))
  have HR1b := Lib.hid ((HR1.out.below hb4).more hb4.size)
  have HR2 := Lib.hid hr2
  clear hr2 hb4 HI3 HQ3 HB3 HR1
  have HXY := Lib.hid (more_take q mask its (show min a b ≤ max a b by omega))
  have hle := search_le q mask its (show min a b ≤ max a b by omega)
  have hx0 := (search_len q mask its (min a b)).1
  have hyl := (search_len q mask its (max a b)).2
  have HMO := Lib.hid (more_of q mask its (max a b))
  have HWT := Lib.hid (within_take q mask its (max a b))
  have HSB := Lib.hid (search_back q mask its (max a b))
  generalize searchL q mask its (min a b) = X at *
  generalize searchL q mask its (max a b) = Y at *
  have hn1 : ¬ (Y.length : Int) < (X.length : Int) := by omega
  have hn2 : ¬ max 0 (min a b) < (X.length : Int) := by omega
  have hn1n : ¬ Y.length < X.length := by omega
  have hn1d : decide (Y.length < X.length) = false := decide_eq_false hn1n
  have hn1i : decide ((Y.length : Int) < (X.length : Int)) = false := decide_eq_false hn1
  have hn2d : decide (max 0 (min a b) < (X.length : Int)) = false := decide_eq_false hn2
  have hn3 : (X.length : Int) ≤ (c2 : Int) := by omega
  have hn4 : (0 : Int) ≤ (X.length : Int) := by omega
  have hn5 : ((X.length : Int)).toNat = X.length := Int.toNat_natCast _
  have HYL : Hid (Y.length ≤ c2 ∧ Y.length ≤ its.length) := ⟨hc2, hyl⟩
  go_wp2_with fail
  have hRX : RdH w4 w4.heap.size A2 X := by
    have := HR2.out.take X.length
    rw [HXY.out] at this
    exact this
  refine (SameH_refl A1 A2 X c1 c2 w4 HR1b.out hRX (by have := N.out; omega)).mono ?_
  rintro e w5 ⟨rfl, hd⟩
  have hb5 := drawn_below hd
  have HI5 := Lib.hid ((HI4.out.below hb5).more hb5.size)
  have HQ5 := Lib.hid ((HQ4.out.below hb5).more hb5.size)
  have HB5 := Lib.hid (HB4.out.trans (hb5.mono HB4.out.size))
  have HR5 := Lib.hid ((HR2.out.below hb5).more hb5.size)
  clear hd hb5 HI4 HQ4 HB4 HR1b HR2 hRX HXY
  go_wp2
  clear hn1 hn2 hn1n hn1d hn1i hn2d hn3 hn4 hn5 hle hx0 hyl hc2
  go_loopw [65] (fun i wr => ∃ k : Nat, k ≤ Y.length ∧ i = .int .i64 k ∧ Below w5.heap.size w5 wr) (fun i _ => Y.length - (intOf i).toNat)
  case atStart => exact ⟨0, Nat.zero_le _, rfl, Below.refl _ _⟩
  case round =>
    obtain ⟨k, hk, rfl, hbl⟩ := hrel
    have hNN := N.out
    have hYY := HYL.out
    by_cases hlt : k < Y.length
    · obtain ⟨b2, o2, rfl, hb2, h0, h1⟩ := HR5.out k _ (List.getElem?_eq_getElem hlt)
      have HM := Lib.hid (HMO.out k hlt)
      replace h0 := (hbl.cell (p := ⟨b2, o2 + k * 2, none⟩) hb2).trans h0
      replace h1 := (hbl.cell (p := ⟨b2, o2 + k * 2 + 1, none⟩) hb2).trans h1
      generalize Y[k] = x at *
      obtain ⟨xd, xi⟩ := x
      simp only at h0 h1
      have s1 : (k : Int) < (Y.length : Int) := by omega
      have s2 : (0 : Int) ≤ (k : Int) := by omega
      have s3 : ((k : Int)).toNat = k := Int.toNat_natCast k
      have hBA := below_new3 wr (.cells #[.int .u64 xd, .int .u64 xi] 26)
      have HBX := Lib.hid (hbl.trans (hBA.mono hbl.size))
      have d0 : (wr.alloc (.cells #[.int .u64 xd, .int .u64 xi] 26)).cell? ⟨wr.heap.size, 0, none⟩ = some (.int .u64 xd) := by go_cell
      have d1 : (wr.alloc (.cells #[.int .u64 xd, .int .u64 xi] 26)).cell? ⟨wr.heap.size, 1, none⟩ = some (.int .u64 xi) := by go_cell
      have hDX : wr.heap.size < (wr.alloc (.cells #[.int .u64 xd, .int .u64 xi] 26)).heap.size := by simp
      clear hbl hBA
      go_wp2
      generalize wr.alloc (.cells #[.int .u64 xd, .int .u64 xi] 26) = X1 at *
      generalize wr.heap.size = D at *
      clear h0 h1
      go_loopw [72, 15] (fun i v wq => ∃ (j : Nat) (bb : Bool), j ≤ its.length ∧ i = .int .i64 j ∧ v = .bool bb ∧ Hid (bb = (its.take j).any (isIt q mask (xd, xi))) ∧ Below X1.heap.size X1 wq) (fun i _ _ => its.length - (intOf i).toNat)
      case atStart => exact ⟨0, false, Nat.zero_le _, rfl, rfl, by simp [Hid], Below.refl _ _⟩
      case round =>
        obtain ⟨j, bb, hj, rfl, rfl, HBJ, hbq⟩ := hrel
        by_cases hjl : j < its.length
        · have HBW := Lib.hid (HBX.out.trans (hbq.mono HBX.out.size))
          obtain ⟨⟨bi, oi, rfl, hbi, e0, e1, e2⟩, hV⟩ := ((HI5.out.below HBW.out).more HBW.out.size) j _ (List.getElem?_eq_getElem hjl)
          have HNX : Hid ((its.take (j + 1)).any (isIt q mask (xd, xi)) = (bb || (its[j].id == xi && (bits .and .u64 its[j].tags mask == mask && distI q its[j] == xd)))) := by
            rw [Hid, any_next _ _ _ hjl, HBJ.out]
            rfl
          have hNN := N.out
          clear HBJ
          generalize its[j] = z at *
          obtain ⟨id, ZA, zv, zc, tg⟩ := z
          simp only at e0 e1 e2 hV HNX
          obtain ⟨dd, hdd⟩ : ∃ dd, distI q ⟨id, ZA, zv, zc, tg⟩ = dd := ⟨_, rfl⟩
          rw [hdd] at HNX
          have HDD : Hid (satN (distN q zv (max q.length zv.length)) = dd) := hdd
          clear hdd
          have t1 : (j : Int) < (its.length : Int) := by omega
          have t2 : (0 : Int) ≤ (j : Int) := by omega
          have t3 : ((j : Int)).toNat = j := Int.toNat_natCast j
          have hBE := below_new3 wr (.cells #[.int .u64 id, .slice ZA zv.length zc, .int .u64 tg] 36)
          have HBE := Lib.hid (hbq.trans (hBE.mono hbq.size))
          have hE : wr.heap.size < (wr.alloc (.cells #[.int .u64 id, .slice ZA zv.length zc, .int .u64 tg] 36)).heap.size := by simp
          have hDq := Nat.lt_of_lt_of_le hDX hbq.size
          have m0 := (hBE.cell (p := ⟨D, 0, none⟩) hDq).trans ((hbq.cell (p := ⟨D, 0, none⟩) hDX).trans d0)
          have m1 := (hBE.cell (p := ⟨D, 1, none⟩) hDq).trans ((hbq.cell (p := ⟨D, 1, none⟩) hDX).trans d1)
          have n0 : (wr.alloc (.cells #[.int .u64 id, .slice ZA zv.length zc, .int .u64 tg] 36)).cell? ⟨wr.heap.size, 0, none⟩ = some (.int .u64 id) := by go_cell
          have n1 : (wr.alloc (.cells #[.int .u64 id, .slice ZA zv.length zc, .int .u64 tg] 36)).cell? ⟨wr.heap.size, 1, none⟩ = some (.slice ZA zv.length zc) := by go_cell
          have n2 : (wr.alloc (.cells #[.int .u64 id, .slice ZA zv.length zc, .int .u64 tg] 36)).cell? ⟨wr.heap.size, 2, none⟩ = some (.int .u64 tg) := by go_cell
          have HVZ := Lib.hid ((hV.below hBE).more hBE.size)
          have hw := HBW.out.trans (hBE.mono HBW.out.size)
          have HVQ := Lib.hid ((HQ5.out.below hw).more hw.size)
          have hDE := Nat.lt_of_lt_of_le hDq hBE.size
          have hsix : Six (wr.alloc (.cells #[.int .u64 id, .slice ZA zv.length zc, .int .u64 tg] 36)) D wr.heap.size xd xi id (.slice ZA zv.length zc) tg := ⟨hDE, hE, m0, m1, n0, n1, n2⟩
          have HSX := Lib.hid hsix
          clear hbq hBE hV d0 d1 hDX hw hsix
          go_upto_region 15 with (fail)
          generalize wr.alloc (.cells #[.int .u64 id, .slice ZA zv.length zc, .int .u64 tg] 36) = V at *
          generalize wr.heap.size = E at *
          clear e0 e1 e2
          cases bb
          · by_cases hid : id = xi
            · subst hid
              by_cases ht : bits .and .u64 tg mask = mask
              · have HDT : Hid (∀ W, Below V.heap.size V W → Calls Try.prog 21 #[.slice Q q.length cq, .slice ZA zv.length zc] W fun e w' => e = .returned (.int .u64 dd) ∧ Below W.heap.size W w') := Lib.hid fun W hb => (VecB.dist (HVQ.out.below hb) (HVZ.out.below hb) hb.size cq zc).mono fun _ _ ⟨he, h2⟩ => ⟨by rw [he, HDD.out], h2⟩
                obtain ⟨c, hc⟩ : ∃ c, decide (dd = xd) = c := ⟨_, rfl⟩
                have hc2 : (dd == xd) = c := by rw [← hc]; rfl
                rw [hc2] at HNX
                have g0 := cell_regrown m0
                have g1 := cell_regrown m1
                have g2 := cell_regrown n0
                have g3 := cell_regrown n1
                have g4 := cell_regrown n2
                clear m0 m1 n0 n1 n2
                refine wp_region_quiet_below (by assumption) (by kernel_rfl) ?_
                repeat (go_big_quiet_step ((go_at_call 21; exact Calls.regrown_of (HDT.out _ (below_regrown _ _ _)))))
                refine wpQuiet_nil ?_
                intro _ hw'
                obtain ⟨⟨dq, osq⟩, hw''⟩ := hw'
                subst hw''
                have HB9 := Lib.hid (HBE.out.trans ((below_regrown V dq osq).mono HBE.out.size))
                clear g0 g1 g2 g3 g4
                go_wp2
                go_roundw
                case rel => exact ⟨j + 1, c, by omega, by go_num, rfl, by rw [Hid, HNX.out]; simp [ht], HB9.out⟩
                case measure => simp [intOf]; omega
              · have ht2 : (bits .and .u64 tg mask == mask) = false := by simpa using ht
                have ht3 : decide (bits .and .u64 tg mask = mask) = false := by simpa using ht
                have g0 := cell_regrown m0
                have g1 := cell_regrown m1
                have g2 := cell_regrown n0
                have g3 := cell_regrown n1
                have g4 := cell_regrown n2
                clear m0 m1 n0 n1 n2
                refine wp_region_quiet_below (by assumption) (by kernel_rfl) ?_
                repeat (go_big_quiet_step (fail))
                refine wpQuiet_nil ?_
                intro _ hw'
                obtain ⟨⟨dq, osq⟩, hw''⟩ := hw'
                subst hw''
                have HB9 := Lib.hid (HBE.out.trans ((below_regrown V dq osq).mono HBE.out.size))
                clear g0 g1 g2 g3 g4
                go_wp2
                go_roundw
                case rel => exact ⟨j + 1, false, by omega, by go_num, rfl, by rw [Hid, HNX.out]; simp [ht], HB9.out⟩
                case measure => simp [intOf]; omega
            · have hid2 : (id == xi) = false := by simpa using hid
              have hid3 : decide (id = xi) = false := by simpa using hid
              have g0 := cell_regrown m0
              have g1 := cell_regrown m1
              have g2 := cell_regrown n0
              have g3 := cell_regrown n1
              have g4 := cell_regrown n2
              clear m0 m1 n0 n1 n2
              refine wp_region_quiet_below (by assumption) (by kernel_rfl) ?_
              repeat (go_big_quiet_step (fail))
              refine wpQuiet_nil ?_
              intro _ hw'
              obtain ⟨⟨dq, osq⟩, hw''⟩ := hw'
              subst hw''
              have HB9 := Lib.hid (HBE.out.trans ((below_regrown V dq osq).mono HBE.out.size))
              clear g0 g1 g2 g3 g4
              go_wp2
              go_roundw
              case rel => exact ⟨j + 1, false, by omega, by go_num, rfl, by rw [Hid, HNX.out]; simp [hid], HB9.out⟩
              case measure => simp [intOf]; omega
          · go_big_quiet (fail)
            have HB9 := Lib.hid (HBE.out.trans ((below_draws V nq V.heap.size).mono HBE.out.size))
            clear m0 m1 n0 n1 n2
            go_wp2
            go_roundw
            case rel => exact ⟨j + 1, true, by omega, by go_num, rfl, by rw [Hid, HNX.out]; rfl, HB9.out⟩
            case measure => simp [intOf]; omega
        · obtain rfl : j = its.length := by omega
          have hbt : bb = true := by rw [HBJ.out, List.take_of_length_le (Nat.le_refl _)]; exact HM.out.is
          subst hbt
          have HB8 := Lib.hid (HBX.out.trans (hbq.mono HBX.out.size))
          have f0 := (hbq.cell (p := ⟨D, 0, none⟩) hDX).trans d0
          have f1 := (hbq.cell (p := ⟨D, 1, none⟩) hDX).trans d1
          have hDr := Nat.lt_of_lt_of_le hDX hbq.size
          have hp := HM.out.place
          have HPV := Lib.hid HM.out.prev
          have HPL : Hid (∀ W, Below wr.heap.size wr W → Calls Try.prog 19 #[.slice A its.length ca, .slice Q q.length cq, .int .u64 mask, .agg #[.int .u64 xd, .int .u64 xi]] W fun e w' => e = .returned (.int .i64 (placeN q mask its (xd, xi) : Int)) ∧ Below W.heap.size W w') := Lib.hid fun W hb => Place_any A its ca Q q cq mask (xd, xi) (by have := N.out; omega) W (((HI5.out.below (HB8.out.trans (hb.mono HB8.out.size))).more (HB8.out.trans (hb.mono HB8.out.size)).size)) (((HQ5.out.below (HB8.out.trans (hb.mono HB8.out.size))).more (HB8.out.trans (hb.mono HB8.out.size)).size))
          generalize placeN q mask its (xd, xi) = pn at *
          have p1 : ¬ (k : Int) < (pn : Int) := by omega
          have p2 : ¬ k < pn := by omega
          clear HBJ hbq d0 d1 HM
          go_upto_region 17 with (fail)
          by_cases hk0 : k = 0
          · have z1 : ¬ (0 : Int) < (k : Int) := by omega
            have z2 : ¬ 0 < k := by omega
            have g0 := cell_regrown f0
            have g1 := cell_regrown f1
            clear f0 f1 hk0
            refine wp_region_quiet_below (by assumption) (by kernel_rfl) ?_
            repeat (go_big_quiet_step ((go_at_call 19; exact Calls.regrown_of (HPL.out _ (below_regrown _ _ _)))))
            refine wpQuiet_nil ?_
            intro _ hw'
            obtain ⟨⟨dq, osq⟩, hw''⟩ := hw'
            subst hw''
            have HB9 := Lib.hid (HB8.out.trans ((below_regrown wr dq osq).mono HB8.out.size))
            clear g0 g1
            go_wp2
            go_roundw
            case rel => exact ⟨k + 1, by omega, by go_num, HB9.out⟩
            case measure => simp [intOf]; omega
          · obtain ⟨r, rfl⟩ : ∃ r, k = r + 1 := ⟨k - 1, by omega⟩
            obtain ⟨y, hy, hyx⟩ := HPV.out r rfl
            obtain ⟨b', o', he, hb', z0, z1⟩ := HR5.out r y hy
            injection he with he
            injection he with e1 e2
            subst e1 e2
            obtain ⟨yd, yi⟩ := y
            simp only at z0 z1
            have u1 : (0 : Int) ≤ (r : Int) := by omega
            have u2 : ((r : Int)).toNat = r := Int.toNat_natCast r
            have u3 : IntKind.i64.wrap (r : Int) = (r : Int) := by rw [IntKind.wrap_i64]; have := N.out; have := HYL.out; omega
            have u4 : (r : Int) < (Y.length : Int) := by omega
            have u5 : ((r + 1 : Nat) : Int) - 1 = (r : Int) := by omega
            have u6 : (0 : Int) < ((r + 1 : Nat) : Int) := by omega
            have v1 : ¬ (r : Int) + 1 < (pn : Int) := by omega
            have v2 : ¬ r + 1 < pn := by omega
            have v3 : decide ((r : Int) + 1 < (pn : Int)) = false := by simpa using v1
            have v4 : decide (r + 1 < pn) = false := by simpa using v2
            have v5 : (0 : Int) < (r : Int) + 1 := by omega
            have v6 : decide ((0 : Int) < (r : Int) + 1) = true := decide_eq_true v5
            have v7 : decide (0 < r + 1) = true := by simp
            clear p1 p2
            have HHT : Hid (∀ W, Calls Try.prog 22 #[.agg #[.int .u64 xd, .int .u64 xi], .agg #[.int .u64 yd, .int .u64 yi]] W fun e w' => e = .returned (.bool false) ∧ Below W.heap.size W w') := Lib.hid fun W => (Hit_any (xd, xi) (yd, yi) W).mono fun _ _ ⟨he, h2⟩ => ⟨by rw [he, hyx], h2.below⟩
            have g0 := cell_regrown f0
            have g1 := cell_regrown f1
            have g2 := cell_regrown ((HB8.out.cell (p := ⟨b2, o2 + r * 2, none⟩) hb2).trans z0)
            have g3 := cell_regrown ((HB8.out.cell (p := ⟨b2, o2 + r * 2 + 1, none⟩) hb2).trans z1)
            clear f0 f1 z0 z1 hy hyx hk0
            refine wp_region_quiet_below (by assumption) (by kernel_rfl) ?_
            repeat (go_big_quiet_step (first | (go_at_call 19; exact Calls.regrown_of (HPL.out _ (below_regrown _ _ _))) | (go_at_call 22; exact Calls.regrown_of (HHT.out _))))
            refine wpQuiet_nil ?_
            intro _ hw'
            obtain ⟨⟨dq, osq⟩, hw''⟩ := hw'
            subst hw''
            have HB9 := Lib.hid (HB8.out.trans ((below_regrown wr dq osq).mono HB8.out.size))
            clear g0 g1 g2 g3
            go_wp2
            go_roundw
            case rel => exact ⟨r + 1 + 1, by omega, by go_num, HB9.out⟩
            case measure => simp [intOf]; omega
    · obtain rfl : k = Y.length := by omega
      have HB6 := Lib.hid (HB5.out.trans (hbl.mono HB5.out.size))
      have HI6 := Lib.hid ((HI5.out.below hbl).more hbl.size)
      have HQ6 := Lib.hid ((HQ5.out.below hbl).more hbl.size)
      have HR6 := Lib.hid ((HR5.out.below hbl).more hbl.size)
      clear hbl HI5 HQ5 HB5 HR5 HMO hlt hk
      obtain ⟨i0, hi0, hz0, hz1, hz2⟩ := info_parts infoT
      obtain ⟨w6, hw6⟩ : ∃ w6, w6 = wr := ⟨_, rfl⟩
      subst hw6
      go_wp2
      go_loopw [129, 18] (fun i v wr => ∃ j : Nat, j ≤ its.length ∧ i = .int .i64 j ∧ wr.ownsRow w6.heap.size 36 3 v j (cellsT (its.reverse.take j)) ∧ Below w6.heap.size w6 wr) (fun i _ _ => its.length - (intOf i).toNat)
      case atStart => exact ⟨0, Nat.zero_le _, rfl, World.ownsRow_nil _ _ _ _, Below.refl _ _⟩
      case round =>
        obtain ⟨j, hj, rfl, hown, hbj⟩ := hrel
        have hNN := N.out
        by_cases hjl : j < its.length
        · have hjm : its.length - 1 - j < its.length := by omega
          have HT : Hid (cellsT (its.reverse.take (j + 1)) = cellsT (its.reverse.take j) ++ encT its[its.length - 1 - j]) := by rw [Hid, rev_snoc its j hjl, cellsT_snoc]
          obtain ⟨⟨bi, oi, rfl, hbi, e0, e1, e2⟩, -⟩ := HI6.out _ _ (List.getElem?_eq_getElem hjm)
          replace e0 := (hbj.cell (p := ⟨bi, oi + (its.length - 1 - j) * 3, none⟩) hbi).trans e0
          replace e1 := (hbj.cell (p := ⟨bi, oi + (its.length - 1 - j) * 3 + 1, none⟩) hbi).trans e1
          replace e2 := (hbj.cell (p := ⟨bi, oi + (its.length - 1 - j) * 3 + 2, none⟩) hbi).trans e2
          generalize its[its.length - 1 - j] = z at *
          obtain ⟨id, ZA, zv, zc, tg⟩ := z
          simp only at e0 e1 e2
          have t1 : (j : Int) < (its.length : Int) := by omega
          have t2 : (0 : Int) ≤ (j : Int) := by omega
          obtain ⟨m, hm⟩ : ∃ m, its.length - 1 - j = m := ⟨_, rfl⟩
          rw [hm] at e0 e1 e2
          have t4 : IntKind.i64.wrap ((its.length : Int) - 1) = (its.length : Int) - 1 := by rw [IntKind.wrap_i64]; omega
          have t5 : (its.length : Int) - 1 - (j : Int) = (m : Int) := by omega
          have t6 : IntKind.i64.wrap (m : Int) = (m : Int) := by rw [IntKind.wrap_i64]; omega
          have t7 : (m : Int) < (its.length : Int) := by omega
          have t8 : (0 : Int) ≤ (m : Int) := by omega
          have t9 : ((m : Int)).toNat = m := Int.toNat_natCast m
          have HOW := Lib.hid hown
          have HBJ := Lib.hid hbj
          have l4 : j + 1 ≤ maxLen := by unfold maxLen; omega
          have l5 : (j + 1) * 40 ≤ 140737488355328 := by omega
          have l6 : w6.heap.size ≤ (wr.alloc (.cells #[.int .u64 id, .slice ZA zv.length zc, .int .u64 tg] 36)).heap.size := by have := hbj.size; simp; omega
          have hownA := hown.alloc (.cells #[.int .u64 id, .slice ZA zv.length zc, .int .u64 tg] 36)
          clear hbj
          go_wp2_with (at_builtin; refine' wpList_append_cells rfl _ _ 22 rfl w6.heap.size 36 i0 _ 3 40 Try.underlying22 hi0 hz0 hz1 hz2 rfl (by decide) _ j (cellsT (its.reverse.take j)) rfl hownA _ 1 1 [.int .u64 id, .slice ZA zv.length zc, .int .u64 tg] rfl rfl (fun e => by cases e) (newsT rfl) (by simp [Value.oneCell']) l4 l5 l6 _; intro v2 W2 hown2 hg2)
          have hb2 := ownBase hownA (HBJ.out.alloc HBJ.out.size _) (Nat.le_refl _) l6 hg2
          have hown3 : W2.ownsRow w6.heap.size 36 3 v2 (j + 1) (cellsT (its.reverse.take (j + 1))) := by rw [HT.out]; exact hown2
          clear hown2 hg2 hownA
          go_roundw
          case rel =>
            exact ⟨j + 1, by omega, by go_num, hown3, hb2⟩
          case measure => simp [intOf]; omega
        · obtain rfl : j = its.length := by omega
          rw [List.take_of_length_le (by simp)] at hown
          obtain ⟨AS, cS, rfl, _, _⟩ := ownSlice hown
          have HI7 := Lib.hid ((HI6.out.below hbj).more hbj.size)
          have HQ7 := Lib.hid ((HQ6.out.below hbj).more hbj.size)
          have HR7 := Lib.hid ((HR6.out.below hbj).more hbj.size)
          have HB7 := Lib.hid (HB6.out.trans (hbj.mono HB6.out.size))
          have HRV := Lib.hid (itemsT_own hown (by simp) (fun z hz => by
            obtain ⟨r, hr, rfl⟩ := List.getElem_of_mem (List.mem_reverse.1 hz)
            exact (HI7.out r _ (List.getElem?_eq_getElem hr)).2))
          have HSR : Hid (∀ W, Below wr.heap.size wr W → Calls Try.prog 15 #[.slice AS its.length cS, .slice Q q.length cq, .int .u64 mask, .int .i64 (max a b)] W (HitsOut Y W)) := Lib.hid fun W hb => by
            have h := Search_any AS its.reverse cS Q q cq mask (max a b) (by rw [List.length_reverse]; have := N.out; omega) W ((HRV.out.below hb).more hb.size) ((HQ7.out.below hb).more hb.size)
            rw [List.length_reverse, HSB.out] at h
            exact h
          have hYY := HYL.out
          clear hown hbj HI6 HQ6 HB6 HR6 HRV hjl hj
          by_cases hy : Y.length = 0
          · have y1 : ¬ (0 : Int) < (Y.length : Int) := by omega
            have y2 : ¬ 0 < Y.length := by omega
            clear hy
            go_wp2_with fail
            refine (HSR.out _ (Below.refl _ _)).mono ?_
            rintro e w8 ⟨A8, c8, rfl, hr8, -, -, hb8⟩
            have HS := Lib.hid (SameH_refl A8 A2 Y c8 c2 w8 hr8 ((HR7.out.below hb8).more hb8.size) (by omega))
            have HB8 := Lib.hid (HB7.out.trans (hb8.mono HB7.out.size))
            clear hr8 hb8
            go_wp2_with fail
            refine HS.out.mono ?_
            rintro e w9 ⟨rfl, hd⟩
            have HB9 := Lib.hid (HB8.out.trans ((drawn_below hd).mono HB8.out.size))
            clear hd
            go_wp2
            go_ret
            exact ⟨rfl, HB9.out⟩
          · have hr : Y.length - 1 < Y.length := by omega
            obtain ⟨w1', w2'⟩ := HWT.out hy hr
            obtain ⟨b2, o2, rfl, hb2, h0, h1⟩ := HR7.out _ _ (List.getElem?_eq_getElem hr)
            generalize Y[Y.length - 1] = x at *
            obtain ⟨xd, xi⟩ := x
            simp only at h0 h1 w1' w2'
            obtain ⟨m, hm⟩ : ∃ m, Y.length - 1 = m := ⟨_, rfl⟩
            rw [hm] at h0 h1
            have HW2 := Lib.hid w2'
            have y1 : (0 : Int) < (Y.length : Int) := by omega
            have y2 : 0 < Y.length := by omega
            have y3 : (Y.length : Int) - 1 = (m : Int) := by omega
            have y4 : IntKind.i64.wrap (m : Int) = (m : Int) := by rw [IntKind.wrap_i64]; omega
            have y5 : (m : Int) < (Y.length : Int) := by omega
            have y6 : (0 : Int) ≤ (m : Int) := by omega
            have y7 : ((m : Int)).toNat = m := Int.toNat_natCast m
            have HWI := Lib.hid (Within_any A its ca Q q cq mask xd (by omega) wr HI7.out HQ7.out)
            generalize withinL q mask its xd = WL at *
            clear hy hr w2'
            go_wp2_with fail
            refine HWI.out.mono ?_
            rintro e w8 ⟨A8, c8, rfl, hr8, hc8, -, hb8⟩
            have HR8 := Lib.hid ((HR7.out.below hb8).more hb8.size)
            have HRW : Hid (RdH w8 w8.heap.size A8 Y) := Lib.hid (by have h := hr8.take Y.length; rw [HW2.out] at h; exact h)
            have HB8 := Lib.hid (HB7.out.trans (hb8.mono HB7.out.size))
            have HBW := Lib.hid hb8
            have HS8 := Lib.hid (SameH_refl A8 (some ⟨b2, o2, none⟩) Y c8 c2 w8 HRW.out HR8.out (by omega))
            have v1 : ¬ (WL.length : Int) < (Y.length : Int) := by omega
            have v2 : ¬ WL.length < Y.length := by omega
            have v3 : (Y.length : Int) ≤ (c8 : Int) := by omega
            have v4 : (0 : Int) ≤ (Y.length : Int) := by omega
            have v5 : ((Y.length : Int)).toNat = Y.length := Int.toNat_natCast _
            clear hr8 hb8 h0 h1 HR7 HWI HRW
            go_wp2_with fail
            refine HS8.out.mono ?_
            rintro e w9 ⟨rfl, hd⟩
            have HB9 := Lib.hid (HBW.out.trans ((drawn_below hd).mono HBW.out.size))
            have HR9 := Lib.hid ((HR8.out.below (drawn_below hd)).more (drawn_below hd).size)
            clear hd HS8
            go_wp2_with fail
            refine (HSR.out _ HB9.out).mono ?_
            rintro e w10 ⟨A10, c10, rfl, hr10, -, -, hb10⟩
            have HS := Lib.hid (SameH_refl A10 (some ⟨b2, o2, none⟩) Y c10 c2 w10 hr10 ((HR9.out.below hb10).more hb10.size) (by omega))
            have HB10 := Lib.hid ((HB7.out.trans (HB9.out.mono HB7.out.size)).trans (hb10.mono (Nat.le_trans HB7.out.size HB9.out.size)))
            clear hr10 hb10
            go_wp2_with fail
            refine HS.out.mono ?_
            rintro e w11 ⟨rfl, hd⟩
            have HB11 := Lib.hid (HB10.out.trans ((drawn_below hd).mono HB10.out.size))
            clear hd
            go_wp2
            go_ret
            exact ⟨rfl, HB11.out⟩

end Go.Proofs.Ytajmnhnepoomjaa
