/- The document's own search, within and place (ganglionref13), by contract. -/
import Derived.Test.YtajmnhnepoomjaaRefHits
namespace Go.Proofs.Ytajmnhnepoomjaa
open Go.RowKit Go.Shelf Go.Sort Go.Lib

set_option maxHeartbeats 1000000 in
theorem refSearch_any (A : Option Addr) (its : List ItT) (ca : Nat) (Q : Option Addr) (q : List Int) (cq : Nat) (mask k : Int) (hl : its.length ≤ 1000) (w : World) (hI : ItemsAt w w.heap.size A its) (hQ : VecB w w.heap.size Q q) :
    Calls Try.prog 16 #[.slice A its.length ca, .slice Q q.length cq, .int .u64 mask, .int .i64 k] w (HitsOut (searchL q mask its k) w) := by
  have HC := Lib.hid (refHits_any A its ca Q q cq mask hl w hI hQ)
  clear hI hQ
  go_enter Try.func16, Try.ntmps16
  go_wp2_with fail
  refine HC.out.mono ?_
  rintro e w2 ⟨A2, c2, rfl, hr, hc, hm, hb⟩
  have hln := ordH_len q mask its
  obtain ⟨L, hL⟩ : ∃ L, ordH q mask its = L := ⟨_, rfl⟩
  have HS : Hid (searchL q mask its k = L.take k.toNat) := by rw [Hid, ← hL]; rfl
  rw [hL] at hr hc hln ⊢
  clear hL
  obtain ⟨n, hn⟩ : ∃ n, L.length = n := ⟨_, rfl⟩
  obtain ⟨t, ht⟩ : ∃ t : Nat, max 0 (min k (n : Int)) = (t : Int) := ⟨(max 0 (min k (n : Int))).toNat, by omega⟩
  have htk : L.take k.toNat = L.take t := by
    by_cases h : k.toNat ≤ n
    · rw [show t = k.toNat by omega]
    · rw [List.take_of_length_le (by omega), List.take_of_length_le (by omega)]
  have htn : t ≤ n := by omega
  have HTK := Lib.hid htk
  have HR := Lib.hid (hr.take t)
  have HLT : Hid ((L.take t).length = t) := by rw [Hid, List.length_take]; omega
  have HB := Lib.hid hb
  have h1 : (t : Int) ≤ (c2 : Int) := by omega
  have h2 : (0 : Int) ≤ (t : Int) := by omega
  have h3 : ((t : Int)).toNat = t := Int.toNat_natCast t
  have h4 : t ≤ c2 := by omega
  rw [hn]
  clear hr hb htk hn HC hln
  go_wp2
  go_ret
  rw [HS.out, HTK.out]
  exact ⟨A2, c2, by rw [HLT.out]; rfl, HR.out, by rw [HLT.out]; exact h4, hm, HB.out⟩

/-- Those of the first k that are near enough. -/
def nearTo (H : List HitT) (most : Int) (k : Nat) : List HitT := (H.take k).filter fun h => decide (h.1 ≤ most)
theorem nearTo_le (H : List HitT) (most : Int) (k : Nat) : (nearTo H most k).length ≤ k := by
  have h1 := List.length_filter_le (fun h : HitT => decide (h.1 ≤ most)) (H.take k)
  rw [List.length_take] at h1
  unfold nearTo
  omega
theorem nearTo_yes (H : List HitT) (most : Int) (k : Nat) (h : k < H.length) (ht : H[k].1 ≤ most) : nearTo H most (k + 1) = nearTo H most k ++ [H[k]] := by
  unfold nearTo
  rw [List.take_succ_eq_append_getElem h, List.filter_append, List.filter_cons_of_pos (by simpa using ht)]
  rfl
theorem nearTo_no (H : List HitT) (most : Int) (k : Nat) (h : k < H.length) (ht : ¬ H[k].1 ≤ most) : nearTo H most (k + 1) = nearTo H most k := by
  unfold nearTo
  rw [List.take_succ_eq_append_getElem h, List.filter_append, List.filter_cons_of_neg (by simpa using ht)]
  simp

set_option maxRecDepth 100000 in
set_option maxHeartbeats 2000000 in
theorem refWithin_any (A : Option Addr) (its : List ItT) (ca : Nat) (Q : Option Addr) (q : List Int) (cq : Nat) (mask most : Int) (hl : its.length ≤ 1000) (w : World) (hI : ItemsAt w w.heap.size A its) (hQ : VecB w w.heap.size Q q) :
    Calls Try.prog 18 #[.slice A its.length ca, .slice Q q.length cq, .int .u64 mask, .int .u64 most] w (HitsOut (withinL q mask its most) w) := by
  have HC := Lib.hid (refHits_any A its ca Q q cq mask hl w hI hQ)
  clear hI hQ
  obtain ⟨j0, hj0, hy0, hy1, hy2⟩ := info_parts info_hit
  go_enter Try.func18, Try.ntmps18
  go_wp2_with fail
  refine HC.out.mono ?_
  rintro e w2 ⟨A3, c3, rfl, hr3, -, -, hb3⟩
  have hln := ordH_len q mask its
  obtain ⟨H, hH⟩ : ∃ H, ordH q mask its = H := ⟨_, rfl⟩
  have HW : Hid (withinL q mask its most = nearTo H most H.length) := by rw [Hid, ← hH]; unfold withinL nearTo; rw [List.take_of_length_le (Nat.le_refl _)]
  rw [hH] at hr3 hln ⊢
  have HR3 := Lib.hid hr3
  have HB3 := Lib.hid hb3
  have HLO : Hid (H.length ≤ 1000) := by rw [Hid]; omega
  clear hr3 hb3 hH HC hln
  go_wp2
  go_loopw [17, 9] (fun i v wr => ∃ k : Nat, k ≤ H.length ∧ i = .int .i64 k ∧ wr.ownsRow w2.heap.size 26 2 v (nearTo H most k).length (cellsH (nearTo H most k)) ∧ Below w2.heap.size w2 wr) (fun i _ _ => H.length - (intOf i).toNat)
  case atStart => exact ⟨0, Nat.zero_le _, rfl, World.ownsRow_nil _ _ _ _, Below.refl _ _⟩
  case round =>
    obtain ⟨k, hk, rfl, hown, hbel⟩ := hrel
    have hll := HLO.out
    by_cases hlt : k < H.length
    · obtain ⟨b, off, rfl, hb, h0, h1⟩ := HR3.out k _ (List.getElem?_eq_getElem hlt)
      replace h0 := (hbel.cell (p := ⟨b, off + k * 2, none⟩) hb).trans h0
      replace h1 := (hbel.cell (p := ⟨b, off + k * 2 + 1, none⟩) hb).trans h1
      have HNO := Lib.hid (nearTo_no H most k hlt)
      have HYES : Hid (H[k].1 ≤ most → cellsH (nearTo H most (k + 1)) = cellsH (nearTo H most k) ++ encH H[k] ∧ (nearTo H most (k + 1)).length = (nearTo H most k).length + 1) := Lib.hid fun ht => by
        rw [nearTo_yes H most k hlt ht, cellsH_snoc, List.length_append]
        exact ⟨rfl, rfl⟩
      have hle := nearTo_le H most k
      generalize H[k] = x at *
      obtain ⟨xa, xb⟩ := x
      simp only at h0 h1 HNO HYES
      have hkl : (k : Int) < (H.length : Int) := by omega
      have hk0 : (0 : Int) ≤ (k : Int) := by omega
      have hkn : ((k : Int)).toNat = k := Int.toNat_natCast k
      have hbX := hbel.alloc hbel.size (.cells #[.int .u64 xa, .int .u64 xb] 26)
      by_cases ht : xa ≤ most
      · obtain ⟨hY1, hY2⟩ := HYES.out ht
        have HY1 := Lib.hid hY1
        have HY2 := Lib.hid hY2
        clear hY1 hY2 HYES HNO
        generalize nearTo H most k = R at *
        generalize hn : R.length = n at *
        have l4 : n + 1 ≤ maxLen := by unfold maxLen; omega
        have l5 : (n + 1) * 16 ≤ 140737488355328 := by omega
        have hbA := hbX.alloc (by have := hbel.size; simp; omega) (.cells #[.int .u64 xa, .int .u64 xb] 26)
        have hownA := (hown.alloc (.cells #[.int .u64 xa, .int .u64 xb] 26)).alloc (.cells #[.int .u64 xa, .int .u64 xb] 26)
        have HBA := Lib.hid hbA
        have l6 := hbA.size
        clear hown hbel hbA hbX hn hle
        go_wp2_with (at_builtin; refine' wpList_append_cells rfl _ _ 30 rfl w2.heap.size 26 j0 _ 2 16 Try.underlying30 hj0 hy0 hy1 hy2 rfl (by decide) _ n (cellsH R) rfl hownA _ 1 1 [.int .u64 xa, .int .u64 xb] rfl rfl (fun e => by cases e) (newsH (W := wr.alloc (.cells #[.int .u64 xa, .int .u64 xb] 26)) (by simp) rfl) (by simp [Value.oneCell']) l4 l5 l6 _; intro v2 W2 hown2 hg2)
        have hb2 := ownBase hownA HBA.out (Nat.le_refl _) l6 hg2
        have hown3 : W2.ownsRow w2.heap.size 26 2 v2 (n + 1) (cellsH (nearTo H most (k + 1))) := by rw [HY1.out]; exact hown2
        clear hown2 hg2 hownA
        go_roundw
        case rel => exact ⟨k + 1, by omega, by go_num, by rw [HY2.out]; exact hown3, hb2⟩
        case measure => simp [intOf]; omega
      · have ht2 : decide (xa ≤ most) = false := by simpa using ht
        have hN := HNO.out ht
        have HN := Lib.hid hN
        have HOX := Lib.hid (hown.alloc (.cells #[.int .u64 xa, .int .u64 xb] 26))
        have HBX := Lib.hid hbX
        clear hN HNO HYES hown hbX hbel
        go_wp2
        go_roundw
        case rel => exact ⟨k + 1, by omega, by go_num, by rw [HN.out]; exact HOX.out, HBX.out⟩
        case measure => simp [intOf]; omega
    · obtain rfl : k = H.length := by omega
      generalize nearTo H most H.length = R at *
      obtain ⟨A4, c4, rfl, hc4, hm4⟩ := ownSlice hown
      have HR4 := Lib.hid (rdH_own hown)
      have HB4 := Lib.hid (HB3.out.trans (hbel.mono HB3.out.size))
      clear hown hbel
      go_wp2
      go_ret
      rw [HW.out]
      exact ⟨A4, c4, rfl, HR4.out, hc4, hm4, HB4.out⟩

theorem refHit_val (x y : HitT) (W : World) (b : Bool) (h : ltH x y = b) :
    Calls Try.prog 67 #[.agg #[.int .u64 x.1, .int .u64 x.2], .agg #[.int .u64 y.1, .int .u64 y.2]] W fun e w' => e = .returned (.bool b) ∧ Grown W w' := h ▸ refHit_any x y W

set_option maxRecDepth 100000 in
set_option maxHeartbeats 2000000 in
theorem refPlace_any (A : Option Addr) (its : List ItT) (ca : Nat) (Q : Option Addr) (q : List Int) (cq : Nat) (mask ya yb : Int) (hl : its.length ≤ 1000) (w : World) (hI : ItemsAt w w.heap.size A its) (hQ : VecB w w.heap.size Q q) :
    Calls Try.prog 20 #[.slice A its.length ca, .slice Q q.length cq, .int .u64 mask, .agg #[.int .u64 ya, .int .u64 yb]] w fun e w' => e = .returned (.int .i64 (placeN q mask its (ya, yb) : Int)) ∧ Below w.heap.size w w' := by
  have hb0 := below_new3 w (.cells #[.int .u64 ya, .int .u64 yb] 26)
  have HC := Lib.hid (refHits_any A its ca Q q cq mask hl (w.alloc (.cells #[.int .u64 ya, .int .u64 yb] 26)) ((hI.below hb0).more hb0.size) ((hQ.below hb0).more hb0.size))
  have HB0 := Lib.hid hb0
  have d0 : (w.alloc (.cells #[.int .u64 ya, .int .u64 yb] 26)).cell? ⟨w.heap.size, 0, none⟩ = some (.int .u64 ya) := by go_cell
  have d1 : (w.alloc (.cells #[.int .u64 ya, .int .u64 yb] 26)).cell? ⟨w.heap.size, 1, none⟩ = some (.int .u64 yb) := by go_cell
  have hDX : w.heap.size < (w.alloc (.cells #[.int .u64 ya, .int .u64 yb] 26)).heap.size := by simp
  clear hI hQ hb0
  go_enter Try.func20, Try.ntmps20
  go_wp2_with fail
  refine HC.out.mono ?_
  rintro e w2 ⟨A3, c3, rfl, hr3, -, -, hb3⟩
  have hln := ordH_len q mask its
  have hpn := placeN_ord q mask its (ya, yb)
  obtain ⟨H, hH⟩ : ∃ H, ordH q mask its = H := ⟨_, rfl⟩
  rw [hH] at hr3 hln hpn ⊢
  have HPN := Lib.hid hpn
  have HR3 := Lib.hid hr3
  have HB3 := Lib.hid (HB0.out.trans (hb3.mono HB0.out.size))
  have HLO : Hid (H.length ≤ 1000) := by rw [Hid]; omega
  have c0 := (hb3.cell (p := ⟨w.heap.size, 0, none⟩) hDX).trans d0
  have c1 := (hb3.cell (p := ⟨w.heap.size, 1, none⟩) hDX).trans d1
  have hD2 := Nat.lt_of_lt_of_le hDX hb3.size
  generalize hD : w.heap.size = D at *
  have HDE := Lib.hid hD
  clear hD hr3 hb3 hH HC hln hpn d0 d1 hDX
  go_wp2
  go_loopw [17, 9] (fun i v wr => ∃ k : Nat, k ≤ H.length ∧ i = .int .i64 k ∧ v = .int .i64 ((H.take k).countP fun y => ltH y (ya, yb) : Nat) ∧ Below w2.heap.size w2 wr) (fun i _ _ => H.length - (intOf i).toNat)
  case atStart => exact ⟨0, Nat.zero_le _, rfl, rfl, Below.refl _ _⟩
  case round =>
    obtain ⟨k, hk, rfl, rfl, hbel⟩ := hrel
    have hll := HLO.out
    by_cases hlt : k < H.length
    · obtain ⟨b, off, rfl, hb, h0, h1⟩ := HR3.out k _ (List.getElem?_eq_getElem hlt)
      replace h0 := (hbel.cell (p := ⟨b, off + k * 2, none⟩) hb).trans h0
      replace h1 := (hbel.cell (p := ⟨b, off + k * 2 + 1, none⟩) hb).trans h1
      have HN : Hid ((H.take (k + 1)).countP (fun y => ltH y (ya, yb)) = (H.take k).countP (fun y => ltH y (ya, yb)) + if ltH H[k] (ya, yb) = true then 1 else 0) := by
        rw [Hid, List.take_succ_eq_append_getElem hlt, List.countP_append, List.countP_singleton]
      have hcl : (H.take k).countP (fun y => ltH y (ya, yb)) ≤ k := by
        have h1 := List.countP_le_length (p := fun y => ltH y (ya, yb)) (l := H.take k)
        rw [List.length_take] at h1
        omega
      generalize H[k] = x at *
      obtain ⟨xa, xb⟩ := x
      simp only at h0 h1
      have hkl : (k : Int) < (H.length : Int) := by omega
      have hk0 : (0 : Int) ≤ (k : Int) := by omega
      have hkn : ((k : Int)).toNat = k := Int.toNat_natCast k
      have hbX := hbel.alloc hbel.size (.cells #[.int .u64 xa, .int .u64 xb] 26)
      have HBX := Lib.hid hbX
      have e0 := (hbel.cell (p := ⟨D, 0, none⟩) hD2).trans c0
      have e1 := (hbel.cell (p := ⟨D, 1, none⟩) hD2).trans c1
      have hDr := Nat.lt_of_lt_of_le hD2 hbel.size
      have e2 : (wr.alloc (.cells #[.int .u64 xa, .int .u64 xb] 26)).cell? ⟨D, 0, none⟩ = some (.int .u64 ya) := (World.cell?_alloc_lt wr _ ⟨D, 0, none⟩ hDr).trans e0
      have e3 : (wr.alloc (.cells #[.int .u64 xa, .int .u64 xb] 26)).cell? ⟨D, 1, none⟩ = some (.int .u64 yb) := (World.cell?_alloc_lt wr _ ⟨D, 1, none⟩ hDr).trans e1
      obtain ⟨r, hr⟩ : ∃ r, ltH (xa, xb) (ya, yb) = r := ⟨_, rfl⟩
      rw [hr] at HN
      generalize (H.take k).countP (fun y => ltH y (ya, yb)) = cn at *
      clear hbel hbX e0 e1
      go_wp2_with fail
      refine (refHit_val (xa, xb) (ya, yb) _ r hr).mono ?_
      rintro e W ⟨rfl, hg⟩
      have HB9 := Lib.hid (HBX.out.trans (hg.below.mono HBX.out.size))
      clear hg e2 e3 h0 h1
      cases r
      · have HN2 : Hid ((H.take (k + 1)).countP (fun y => ltH y (ya, yb)) = cn) := HN.out
        go_wp2
        go_roundw
        case rel => exact ⟨k + 1, by omega, by go_num, by rw [HN2.out], HB9.out⟩
        case measure => simp [intOf]; omega
      · have HN2 : Hid ((H.take (k + 1)).countP (fun y => ltH y (ya, yb)) = cn + 1) := HN.out
        go_wp2
        go_roundw
        case rel => exact ⟨k + 1, by omega, by go_num, by rw [HN2.out]; go_num, HB9.out⟩
        case measure => simp [intOf]; omega
    · obtain rfl : k = H.length := by omega
      have HB4 := Lib.hid (HB3.out.trans (hbel.mono (Nat.le_of_lt hD2)))
      rw [List.take_of_length_le (Nat.le_refl _), ← HPN.out]
      clear hbel
      go_wp2
      go_ret
      rw [HDE.out]
      exact ⟨rfl, HB4.out⟩

end Go.Proofs.Ytajmnhnepoomjaa
