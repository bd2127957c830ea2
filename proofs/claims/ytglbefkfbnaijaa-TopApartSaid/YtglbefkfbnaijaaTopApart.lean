/- Those that are apart are so among themselves (TopApart), walked. -/
import Derived.Test.YtglbefkfbnaijaaTopApartP
import Derived.Test.YtglbefkfbnaijaaTopBegins5
namespace Go.Proofs.Ytglbefkfbnaijaa
open Go.RowKit Go.Shelf Go.Sort Go.Lib

def encI (z : ItT) : List Value := [.int .u64 z.id, .slice z.A z.vec.length z.cap, .int .u64 z.tags]
def cellsI (L : List ItT) : List Value := L.flatMap encI
theorem cellsI_snoc (L : List ItT) (x : ItT) : cellsI (L ++ [x]) = cellsI L ++ encI x := by simp [cellsI]
theorem cellsI_get : ∀ (zs : List ItT) (k c : Nat) (h : k < zs.length), c < 3 → (cellsI zs)[k * 3 + c]? = some ((encI zs[k])[c]!)
  | z :: r, 0, c, _, hc => by
    have e : cellsI (z :: r) = encI z ++ cellsI r := rfl
    rw [e, List.getElem?_append_left (by show 0 * 3 + c < 3; omega)]
    match c, hc with
    | 0, _ => rfl
    | 1, _ => rfl
    | 2, _ => rfl
  | z :: r, k + 1, c, h, hc => by
    have e : cellsI (z :: r) = encI z ++ cellsI r := rfl
    have hl : (encI z).length = 3 := rfl
    rw [e, List.getElem?_append_right (by rw [hl]; omega), hl, show (k + 1) * 3 + c - 3 = k * 3 + c by omega]
    exact cellsI_get r k c (by simpa using h) hc
theorem items_own {w : World} {base c n : Nat} {A : Option Addr} {L : List ItT} (h : w.ownsRow base 57 3 (.slice A n c) n (cellsI L)) (hn : L.length = n) (hV : ∀ z ∈ L, VecB w w.heap.size z.A z.vec) : ItemsAt w w.heap.size A L := by
  intro k z hz
  obtain ⟨hk, rfl⟩ := List.getElem?_eq_some_iff.1 hz
  refine ⟨?_, hV _ (List.getElem_mem hk)⟩
  obtain ⟨g, rfl, hg, hgw⟩ := ownPos h (by omega)
  have gc : ∀ r, r < 3 → w.cell? ⟨g, k * 3 + r, none⟩ = some ((encI L[k])[r]!) := fun r hr => by
    rw [h.cellAt (k * 3 + r) (by omega), cellsI_get L k r hk hr]
  exact ⟨g, 0, rfl, hgw, by rw [Nat.zero_add]; exact gc 0 (by decide), by rw [Nat.zero_add]; exact gc 1 (by decide), by rw [Nat.zero_add]; exact gc 2 (by decide)⟩
theorem info_item : (Try.prog.info? 57).map (fun i => (i.zero, i.size, i.bytes)) = some (some (.agg #[.int .u64 0, .slice none 0 0, .int .u64 0]), 3, 40) := by kernel_rfl
theorem spotsL_get (q : List Int) (its : List ItT) (k : Nat) (h : k < its.length) : spAt (spotsL q its) k = spotOf q (k : Int) (itAt its k) := by
  rw [spAt_get (by rw [spotsL_len]; exact h)]
  simp [spotsL]

set_option maxRecDepth 100000 in
set_option maxHeartbeats 16000000 in
theorem TopApart_walk (Q : Option Addr) (q : List Int) (cq : Nat) (A : Option Addr) (its : List ItT) (ca : Nat) (most : Int) (w : World) (hQ : VecB w w.heap.size Q q) (hI : ItemsAt w w.heap.size A its) (_hil : its.length ≤ 9223372036854775807) (hmx : -9223372036854775808 ≤ most ∧ most ≤ 9223372036854775807) :
    Calls Try.prog 14 #[.slice Q q.length cq, .slice A its.length ca, .int .i64 most] w fun e w' => e = .returned (.bool true) ∧ Below w.heap.size w w' := by
  have mixed : Try.prog.follows .mixedOrders = true := by kernel_rfl
  by_cases hlong : 40 < its.length
  · have h1 : (40 : Int) < (its.length : Int) := by omega
    clear hlong hQ hI hmx
    go_enter Try.func14, Try.ntmps14
    go_wp2_with fail
    refine (begins5_any w).mono ?_
    rintro e w1 ⟨rfl, hb⟩
    go_wp2
    go_ret
    exact ⟨rfl, hb⟩
  · have l1 : ¬ (40 : Int) < (its.length : Int) := by omega
    have N : Hid (its.length ≤ 40) := by rw [Hid]; omega
    have HQ := Lib.hid hQ
    have HI := Lib.hid hI
    have HMX := Lib.hid hmx.2
    obtain ⟨i0, hi0, hz0, hz1, hz2⟩ := info_parts info_item
    clear hlong hQ hI hmx
    go_enter Try.func14, Try.ntmps14
    go_wp2_with fail
    refine (begins5_any w).mono ?_
    rintro e w1 ⟨rfl, hb1⟩
    have HB1 := Lib.hid hb1
    clear hb1
    go_wp2_with fail
    refine (spots_any Q q cq A its ca w1 ((HQ.out.below HB1.out).more HB1.out.size) ((HI.out.below HB1.out).more HB1.out.size) (by have := N.out; omega)).mono ?_
    have HSG := Lib.hid (fun k h => spotsL_get q its k h)
    have HSL := Lib.hid (spotsL_len q its)
    generalize spotsL q its = S at *
    rintro e w2 ⟨AS, cS, rfl, hr2, -, -, hb2, -⟩
    have HB2 := Lib.hid (HB1.out.trans (hb2.mono HB1.out.size))
    have HS2 := Lib.hid hr2
    have HI2 := Lib.hid ((HI.out.below HB2.out).more HB2.out.size)
    clear hr2 hb2 HB1 HQ
    go_wp2_with fail
    refine Calls.mono (Apart_any AS S cS A its ca w2 HS2.out HI2.out (by have := HSL.out; have := N.out; omega)) ?_
    rintro e w3 ⟨M, hO, A3, c3, rfl, ho3, hb3⟩
    have HO := Lib.hid hO
    obtain ⟨ch, hch⟩ : ∃ ch, (splitGo its (S.length : Int) M [] []).1 = ch := ⟨_, rfl⟩
    have HCH := Lib.hid hch
    rw [hch] at ho3 ⊢
    have hsub : ch.Sublist M := by rw [← hch]; simpa using splitGo_sub its (S.length : Int) M [] []
    have hcl : ch.length ≤ its.length := by have h1 := hsub.length_le; have h2 := hO.len; have := HSL.out; omega
    have HMEM : Hid (∀ x ∈ ch, x.2 < its.length ∧ x.1.1 = spotOf q (x.2 : Int) (itAt its x.2)) := Lib.hid fun x hx => by
      obtain ⟨h1, h2, _⟩ := hO.mem (hsub.mem hx)
      have h3 : x.2 < its.length := by have := HSL.out; omega
      exact ⟨h3, by rw [h2, HSG.out x.2 h3]⟩
    have HR3 := Lib.hid (rdS_own ho3)
    have HB3 := Lib.hid (HB2.out.trans (hb3.mono HB2.out.size))
    have HS3 := Lib.hid (rdS_later HS2.out hb3)
    have HI3 := Lib.hid ((HI2.out.below hb3).more hb3.size)
    have HCL := Lib.hid hcl
    obtain ⟨Z, hZ⟩ : ∃ Z, spotsC ch = Z := ⟨_, rfl⟩
    have HZ := Lib.hid hZ
    have hZl : Z.length = ch.length := by rw [← hZ, spotsC_len]
    have HZL := Lib.hid hZl
    rw [hZ] at HR3 ⊢
    clear hO hch ho3 hb3 hsub hcl HB2 HS2 HI2 hZ hZl HI HSG
    go_wp2
    go_loopw [28, 9] (fun i v wr => ∃ k : Nat, k ≤ Z.length ∧ i = .int .i64 k ∧ wr.ownsRow w3.heap.size 57 3 v k (cellsI ((againL its ch).take k)) ∧ Below w3.heap.size w3 wr) (fun i _ _ => Z.length - (intOf i).toNat)
    case atStart => exact ⟨0, Nat.zero_le _, rfl, World.ownsRow_nil _ _ _ _, Below.refl _ _⟩
    case round =>
      obtain ⟨k, hk, rfl, hown, hbel⟩ := hrel
      have hn40 := N.out
      have hz40 : Z.length ≤ 40 := by have := HZL.out; have := HCL.out; omega
      by_cases hlt : k < Z.length
      · have hkc : k < ch.length := by have := HZL.out; omega
        have hR := HR3.out.below hbel
        obtain ⟨b, off, rfl, hb, h0, h1, h2⟩ := hR k _ (List.getElem?_eq_getElem hlt)
        obtain ⟨hx1, hx2⟩ := HMEM.out ch[k] (List.getElem_mem hkc)
        have hzk : Z[k].2 = ((ch[k].2 : Nat) : Int) := by
          have : Z[k] = ch[k].1.1 := by
            have h := HZ.out
            subst h
            simp [spotsC]
          rw [this, hx2]
          rfl
        have HT : Hid (cellsI ((againL its ch).take (k + 1)) = cellsI ((againL its ch).take k) ++ encI (itAt its ch[k].2)) := by
          rw [Hid, List.take_succ_eq_append_getElem (by rw [againL_len]; exact hkc), cellsI_snoc]
          congr 1
          simp [againL]
        rw [hzk] at h2
        obtain ⟨⟨bi, oi, rfl, hbi, y0, y1, y2⟩, -⟩ := (HI3.out.below hbel) ch[k].2 _ (itAt_lt hx1)
        generalize itAt its ch[k].2 = z at *
        generalize hix : ch[k].2 = x at *
        generalize Z[k] = s at *
        clear hix hx2 hzk
        obtain ⟨⟨sa, sb⟩, sc⟩ := s
        obtain ⟨zi, zA, zv, zc, zt⟩ := z
        simp only at h0 h1 h2 y0 y1 y2
        have hkl : (k : Int) < (Z.length : Int) := by omega
        have hk0 : (0 : Int) ≤ (k : Int) := by omega
        have hkn : ((k : Int)).toNat = k := Int.toNat_natCast k
        have hxl : (x : Int) < (its.length : Int) := by omega
        have hx0 : (0 : Int) ≤ (x : Int) := by omega
        have hxn : ((x : Int)).toNat = x := Int.toNat_natCast x
        have d2 : (wr.alloc (.cells #[.int .u64 sa, .int .u64 sb, .int .i64 (x : Int)] 33)).cell? ⟨wr.heap.size, 2, none⟩ = some (.int .i64 (x : Int)) := by go_cell
        have hBA := below_new3 wr (.cells #[.int .u64 sa, .int .u64 sb, .int .i64 (x : Int)] 33)
        have z0 := (hBA.cell (p := ⟨bi, oi + x * 3, none⟩) (Nat.lt_of_lt_of_le hbi hbel.size)).trans y0
        have z1 := (hBA.cell (p := ⟨bi, oi + x * 3 + 1, none⟩) (Nat.lt_of_lt_of_le hbi hbel.size)).trans y1
        have z2 := (hBA.cell (p := ⟨bi, oi + x * 3 + 2, none⟩) (Nat.lt_of_lt_of_le hbi hbel.size)).trans y2
        have HOX := Lib.hid (hown.alloc (.cells #[.int .u64 sa, .int .u64 sb, .int .i64 (x : Int)] 33))
        have HBX := Lib.hid (hbel.trans (hBA.mono hbel.size))
        clear hR hown hbel hBA y0 y1 y2
        go_upto_region 11 with (fail)
        generalize wr.alloc (.cells #[.int .u64 sa, .int .u64 sb, .int .i64 (x : Int)] 33) = X at *
        generalize wr.heap.size = D at *
        clear h0 h1 h2
        have hw3X := HBX.out.size
        go_wp2_with (at_builtin; refine wpList_append_lies _ rfl _ _ 51 rfl w3.heap.size 57 i0 _ 3 40 Try.underlying51 hi0 hz0 hz1 hz2 rfl (by decide) _ k (cellsI ((againL its ch).take k)) rfl (HOX.out.alloc _) ⟨X.heap.size, 0, none⟩ 1 1 [.int .u64 zi, .slice zA zv.length zc, .int .u64 zt] rfl rfl (World.news_of_block (cs := #[.int .u64 zi, .slice zA zv.length zc, .int .u64 zt]) (t := 57) (fr := (0, 0)) (heap_alloc_new X _)) (by simp [Value.oneCell']) (by decide) (by unfold maxLen; omega) (by omega) (by simp; omega) (X.heap.size + 1) (by simp) ?_; intro g cap W5 hown5 hgrow hat hlt5)
        have hb5 := ownBase (HOX.out.alloc (.cells #[.int .u64 zi, .slice zA zv.length zc, .int .u64 zt] 57)) (HBX.out.alloc HBX.out.size (.cells #[.int .u64 zi, .slice zA zv.length zc, .int .u64 zt] 57)) (Nat.le_refl _) (by simp; omega) hgrow
        have hT := HT.out
        unfold encI at hT
        simp only at hT
        rw [← hT] at hown5
        have HO5 := Lib.hid hown5
        have HB5 := Lib.hid hb5
        clear hown5 hgrow hat hlt5 hb5 hT d2 z0 z1 z2 hw3X
        go_wp2
        go_roundw
        case rel => exact ⟨k + 1, by omega, by go_num, HO5.out, HB5.out⟩
        case measure => simp [intOf]; omega
      · have hke : k = Z.length := by omega
        have hnk : ¬ (k : Int) < (Z.length : Int) := by omega
        rw [hke, List.take_of_length_le (by rw [againL_len, HZL.out]; exact Nat.le_refl _)] at hown
        have hAl : (againL its ch).length = Z.length := by rw [againL_len, HZL.out]
        obtain ⟨A9, c9, rfl, h91, h92⟩ := ownSlice hown
        have HIA := Lib.hid (fun z (hz : z ∈ againL its ch) => (show VecB w3 w3.heap.size z.A z.vec from by
          unfold againL at hz
          obtain ⟨c, hc, rfl⟩ := List.mem_map.1 hz
          exact itAt_vec HI3.out c.2))
        have HAG : Hid (ItemsAt wr wr.heap.size A9 (againL its ch)) := items_own hown hAl (fun z hz => ((HIA.out z hz).below hbel).more hbel.size)
        have HALL := Lib.hid (fun M2 hO2 => again_all HO.out HCH.out M2 hO2)
        have HW := Lib.hid hbel
        have HAL := Lib.hid hAl
        rw [HZ.out] at HALL
        have HBS := Lib.hid (Best_any AS S cS A its ca most wr ((HS3.out.below hbel).more hbel.size) ((HI3.out.below hbel).more hbel.size) (by have := HSL.out; omega) HMX.out ⟨M, HO.out⟩)
        clear hown hbel hAl h91 h92 HIA hlt hke hk
        go_wp2_with fail
        refine Calls.mono HBS.out ?_
        rintro e w5 ⟨M', hO', hB⟩
        obtain rfl : M' = M := hO'.one HO.out
        obtain ⟨Bb, hBb⟩ : ∃ Bb, (if most < 1 then [] else spotsC (bestL its most M')) = Bb := ⟨_, rfl⟩
        have HF : Hid (∀ k (h : k < Bb.length), ltS Bb[k] (spAt Bb 0) = false) := by
          subst hBb
          intro k h
          by_cases hm : most < 1
          · simp [hm] at h
          · have hx := best_first (its := its) (most := most) hO'.2 (by omega)
            simp only [if_neg hm] at h ⊢
            have h2 : k < (bestL its most M').length := by rw [spotsC_len] at h; exact h
            have h3 := hx _ (List.getElem_mem h2)
            simpa [spotsC] using h3
        have HLB : Hid (((Bb.length : Nat) : Int) = min (max most 0) (its.length : Int)) := by
          subst hBb
          by_cases hm : most < 1
          · simp [hm]
            rw [Hid]
            omega
          · rw [if_neg hm, spotsC_len, Hid, bestL_len (by omega), hO'.len, HSL.out]
            omega
        rw [hBb] at hB
        clear hBb hO' HO HCH HBS
        obtain ⟨A5, c5, rfl, hr5, -, -, hb5⟩ := hB
        have HR5 := Lib.hid hr5
        have HB5 := Lib.hid (HW.out.trans (hb5.mono HW.out.size))
        have HAG5 := Lib.hid ((HAG.out.below hb5).more hb5.size)
        have HZ5 := Lib.hid ((HR3.out.below HB5.out).more HB5.out.size)
        have hbl : Bb.length ≤ 40 := by have := HLB.out; omega
        obtain ⟨nb, hnb⟩ : ∃ nb, Bb.length = nb := ⟨_, rfl⟩
        have HNB := Lib.hid hnb
        rw [hnb] at hbl HLB ⊢
        clear hnb
        clear hr5 hb5 HW HAG
        go_wp2
        go_loopw [57] (fun i wr => ∃ k : Nat, k ≤ nb ∧ i = .int .i64 k ∧ Below w5.heap.size w5 wr) (fun i _ => nb - (intOf i).toNat)
        case atStart => exact ⟨0, Nat.zero_le _, rfl, Below.refl _ _⟩
        case round =>
          obtain ⟨k, hk, rfl, hbel⟩ := hrel
          by_cases hlt0 : k < nb
          · have hlt : k < Bb.length := by have := HNB.out; omega
            have hR := HR5.out.below hbel
            obtain ⟨b, off, rfl, hb, h0, h1, h2⟩ := hR k _ (List.getElem?_eq_getElem hlt)
            obtain ⟨b', off', he, hb', y0, y1, y2⟩ := hR 0 _ (spAt_lt (show 0 < Bb.length by omega))
            injection he with he
            injection he with e1 e2
            subst e1 e2
            have hf := HF.out k hlt
            clear HNB
            rw [Nat.zero_mul, Nat.add_zero] at y0 y1 y2
            generalize Bb[k] = x at *
            generalize spAt Bb 0 = y at *
            obtain ⟨⟨xa, xb⟩, xc⟩ := x
            obtain ⟨⟨ya, yb⟩, yc⟩ := y
            simp only at h0 h1 h2 y0 y1 y2
            have hkl : (k : Int) < (nb : Int) := by omega
            have hk0 : (0 : Int) ≤ (k : Int) := by omega
            have hkn : ((k : Int)).toNat = k := Int.toNat_natCast k
            have h0l : (0 : Int) < (nb : Int) := by omega
            have h0n : 0 < nb := by omega
            have h0e : (nb = 0) = False := by simp; omega
            have hBA := below_new3 wr (.cells #[.int .u64 xa, .int .u64 xb, .int .i64 xc] 33)
            have HBX := Lib.hid (hbel.trans (hBA.mono hbel.size))
            have hbX : b < (wr.alloc (.cells #[.int .u64 xa, .int .u64 xb, .int .i64 xc] 33)).heap.size := by have := hbel.size; simp; omega
            have hDX : wr.heap.size < (wr.alloc (.cells #[.int .u64 xa, .int .u64 xb, .int .i64 xc] 33)).heap.size := by simp
            have hbw : b < wr.heap.size := Nat.lt_of_lt_of_le hb hbel.size
            have g0 := fun n os => cell_grown (n := n) (os := os) (a := ⟨wr.heap.size, 0, none⟩) hDX (show (wr.alloc (.cells #[.int .u64 xa, .int .u64 xb, .int .i64 xc] 33)).cell? ⟨wr.heap.size, 0, none⟩ = some (.int .u64 xa) by go_cell)
            have g1 := fun n os => cell_grown (n := n) (os := os) (a := ⟨wr.heap.size, 1, none⟩) hDX (show (wr.alloc (.cells #[.int .u64 xa, .int .u64 xb, .int .i64 xc] 33)).cell? ⟨wr.heap.size, 1, none⟩ = some (.int .u64 xb) by go_cell)
            have g2 := fun n os => cell_grown (n := n) (os := os) (a := ⟨wr.heap.size, 2, none⟩) hDX (show (wr.alloc (.cells #[.int .u64 xa, .int .u64 xb, .int .i64 xc] 33)).cell? ⟨wr.heap.size, 2, none⟩ = some (.int .i64 xc) by go_cell)
            have g3 := fun n os => cell_grown (n := n) (os := os) (a := ⟨b, off, none⟩) hbX ((hBA.cell (p := ⟨b, off, none⟩) hbw).trans y0)
            have g4 := fun n os => cell_grown (n := n) (os := os) (a := ⟨b, off + 1, none⟩) hbX ((hBA.cell (p := ⟨b, off + 1, none⟩) hbw).trans y1)
            have g5 := fun n os => cell_grown (n := n) (os := os) (a := ⟨b, off + 2, none⟩) hbX ((hBA.cell (p := ⟨b, off + 2, none⟩) hbw).trans y2)
            clear hR y0 y1 y2 hBA hbX hDX hbw hbel
            go_upto_region 19 with (fail)
            generalize wr.alloc (.cells #[.int .u64 xa, .int .u64 xb, .int .i64 xc] 33) = X at *
            generalize wr.heap.size = D at *
            clear h0 h1 h2
            go_quiet_grown ((go_at_call 39; exact Calls.grown_of (Spot_any ((_, _), _) ((_, _), _) _)))
            have HBY := Lib.hid (HBX.out.trans ((show Grown X (grow (X.drewN nq) osq) from ⟨nq, osq, rfl⟩).below.mono HBX.out.size))
            rw [hf]
            clear g0 g1 g2 g3 g4 g5 HBX hf
            go_wp2
            go_roundw
            case rel => exact ⟨k + 1, by omega, by go_num, HBY.out⟩
            case measure => simp [intOf]; omega
          · have hnk2 : ¬ (k : Int) < (nb : Int) := by omega
            have HAG6 := Lib.hid ((HAG5.out.below hbel).more hbel.size)
            have HZ6 := Lib.hid ((HZ5.out.below hbel).more hbel.size)
            have HB6 := Lib.hid (HB5.out.trans (hbel.mono HB5.out.size))
            have hAl := HAL.out
            have HAP := Lib.hid (Apart_any A3 Z c3 A9 (againL its ch) c9 wr HZ6.out HAG6.out (by have := HZL.out; have := HCL.out; omega))
            rw [hAl] at HAP
            have hZ100 : Z.length ≤ 100000 := by have := HZL.out; have := HCL.out; omega
            clear hbel HAG5 HZ5 HB5 HAG6 hAl
            go_wp2_with fail
            refine Calls.mono HAP.out ?_
            rintro e w7 ⟨M2, hO2, hB⟩
            have hall := HALL.out M2 hO2
            rw [hall] at hB
            obtain ⟨A7, c7, rfl, ho7, hb7⟩ := hB
            have HR7 := Lib.hid (rdS_own ho7)
            have HZ7 := Lib.hid ((HZ6.out.below hb7).more hb7.size)
            have HB7 := Lib.hid (HB6.out.trans (hb7.mono HB6.out.size))
            clear hO2 hall ho7 hb7 HAP HZ6 HB6
            go_wp2_with fail
            refine (alike_refl A7 A3 Z c7 c3 _ HR7.out HZ7.out (by omega)).mono ?_
            rintro e w8 ⟨rfl, hd⟩
            have HB8 := Lib.hid (HB7.out.trans ((hd.below _).mono HB7.out.size))
            clear hd HR7 HZ7 HB7
            go_wp2
            go_ret
            refine ⟨?_, HB3.out.trans (HB8.out.mono HB3.out.size)⟩
            rw [HLB.out]
            simp

end Go.Proofs.Ytglbefkfbnaijaa
