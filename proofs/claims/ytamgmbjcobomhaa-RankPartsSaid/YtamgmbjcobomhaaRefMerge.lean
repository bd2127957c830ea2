/- The document's own Merge, by contract. -/
import Derived.Test.YtamgmbjcobomhaaRefSort
namespace Go.Proofs.Ytamgmbjcobomhaa
open Go.RowKit Go.Shelf Go.Sort Go.Lib

def up (h : HitT) : SpotT := (h, 0)
theorem fst_sort (l : List HitT) : (sortS (l.map up)).map (·.1) = sortH l := by
  refine (sortH_eq ?_ ?_).symm
  · have h := (sortS_perm (l.map up)).map (·.1)
    rw [List.map_map] at h
    have e : l.map ((fun x : SpotT => x.1) ∘ up) = l := by
      show l.map (fun x => x) = l
      exact List.map_id' l
    rw [e] at h
    exact h
  · rw [List.pairwise_map]
    refine (sortS_sorted (l.map up)).imp ?_
    intro x y h
    rw [leS_iff] at h
    rw [leH_iff]
    cases e : ltH y.1 x.1
    · rfl
    · have h1 := (ltH_iff _ _).1 e
      have h2 : ltS y x = true := (ltS_iff y x).2 (by omega)
      rw [h] at h2
      cases h2

/-- The hits of the sorted spots, those that are twice once: of the first k. -/
def mrg (L : List SpotT) (k : Nat) : List HitT := compactUpTo (L.map (·.1)).toArray k
theorem mrg_get (L : List SpotT) (k : Nat) (h : k < L.length) : (L.map (·.1)).toArray[k]! = (spAt L k).1 := by
  rw [spAt_get h, getElem!_pos _ _ (by simpa using h)]
  simp
theorem mrg_zero (L : List SpotT) : mrg L 0 = [] := rfl
theorem mrg_last (L : List SpotT) : ∀ k, k < L.length → ∃ O, mrg L (k + 1) = O ++ [(spAt L k).1]
  | 0, h => ⟨[], by
    unfold mrg
    rw [compactUpTo_succ, mrg_get L 0 h]
    rfl⟩
  | k + 1, h => by
    obtain ⟨O, hO⟩ := mrg_last L k (by omega)
    unfold mrg at *
    rw [compactUpTo_succ, mrg_get L (k + 1) h]
    by_cases e : (spAt L (k + 1)).1 = (spAt L k).1
    · rw [keeps_neg (by omega) (by rw [mrg_get L (k + 1) h, Nat.add_sub_cancel, mrg_get L k (by omega)]; exact e), hO, e]
      exact ⟨O, by simp⟩
    · rw [keeps_pos (by rw [mrg_get L (k + 1) h, Nat.add_sub_cancel, mrg_get L k (by omega)]; exact e), hO]
      exact ⟨O ++ [(spAt L k).1], by simp⟩
theorem mrg_same (L : List SpotT) (k : Nat) (h : k + 1 < L.length) (e : (spAt L (k + 1)).1 = (spAt L k).1) : mrg L (k + 1 + 1) = mrg L (k + 1) := by
  unfold mrg
  rw [compactUpTo_succ _ (k + 1), keeps_neg (by omega) (by rw [mrg_get L (k + 1) h, Nat.add_sub_cancel, mrg_get L k (by omega)]; exact e)]
  simp
theorem mrg_more (L : List SpotT) (k : Nat) (h : k + 1 < L.length) (e : ¬ (spAt L (k + 1)).1 = (spAt L k).1) : mrg L (k + 1 + 1) = mrg L (k + 1) ++ [(spAt L (k + 1)).1] := by
  unfold mrg
  rw [compactUpTo_succ _ (k + 1), keeps_pos (by rw [mrg_get L (k + 1) h, Nat.add_sub_cancel, mrg_get L k (by omega)]; exact e), mrg_get L (k + 1) h]
  simp
theorem mrg_one (L : List SpotT) (h : 0 < L.length) : mrg L 1 = [(spAt L 0).1] := by
  unfold mrg
  rw [compactUpTo_succ, mrg_get L 0 h]
  rfl
theorem mrg_len (L : List SpotT) : ∀ k, (mrg L k).length ≤ k
  | 0 => Nat.le_refl _
  | k + 1 => by
    have := mrg_len L k
    unfold mrg at *
    rw [compactUpTo_succ, List.length_append]
    split <;> simp <;> omega
theorem mrg_all (xs ys : List HitT) : mrg (sortS ((xs ++ ys).map up)) (sortS ((xs ++ ys).map up)).length = mergeH xs ys := by
  unfold mrg mergeH compact
  rw [fst_sort]
  have e : (sortS ((xs ++ ys).map up)).length = (sortH (xs ++ ys)).length := by rw [← fst_sort, List.length_map]
  rw [e]

theorem RdH.of_own {w : World} {base c : Nat} {A : Option Addr} {O : List HitT} (h : w.ownsRow base 34 2 (.slice A O.length c) O.length (cellsH O)) : RdH w w.heap.size A O := by
  intro k z hz
  obtain ⟨hk, rfl⟩ := List.getElem?_eq_some_iff.1 hz
  obtain ⟨g, rfl, hg, hgw⟩ := ownPos h (by omega)
  refine ⟨g, 0, rfl, hgw, ?_, ?_⟩
  · have := cellsH_get O k 0 hk (by decide)
    rw [← h.cellAt _ (by omega)] at this
    rw [Nat.zero_add]
    exact this
  · have := cellsH_get O k 1 hk (by decide)
    rw [← h.cellAt _ (by omega)] at this
    rw [Nat.zero_add]
    exact this
theorem up_snoc (A : List HitT) (y : HitT) : (A ++ [y]).map up = A.map up ++ [up y] := by simp
theorem own_none {w : World} {base : Nat} {e : TypeId} {size n c : Nat} {A : Option Addr} {xs : List Value} (h : w.ownsRow base e size (.slice A n c) n xs) : A = none → c = 0 := by
  intro hA
  subst hA
  rcases h.2 with ⟨hv, _⟩ | ⟨g, cap, cur, hv, _⟩
  · injection hv
  · injection hv with hv; cases hv
theorem cellsS_app (xs ys : List SpotT) : cellsS (xs ++ ys) = cellsS xs ++ cellsS ys := by simp [cellsS]
theorem cellsH_snoc (xs : List HitT) (x : HitT) : cellsH (xs ++ [x]) = cellsH xs ++ encH x := by simp [cellsH]

set_option maxRecDepth 100000 in
set_option maxHeartbeats 8000000 in
theorem refMerge_any (A B : Option Addr) (xs ys : List HitT) (ca cb : Nat) (w : World) (hA : RdH w w.heap.size A xs) (hB : RdH w w.heap.size B ys) (hx : xs.length ≤ 10000) (hy : ys.length ≤ 10000) :
    Calls Try.prog 20 #[.slice A xs.length ca, .slice B ys.length cb] w (HitsOut (mergeH xs ys) w) := by
  obtain ⟨i0, hi0, hz0, hz1, hz2⟩ := info_parts info_spot
  obtain ⟨j0, hj0, hy0, hy1, hy2⟩ := info_parts info_hit
  go_enter Try.func20, Try.ntmps20
  go_wp2
  go_loopw [5, 16] (fun v i wr => ∃ (k : Nat) (L : List SpotT), k ≤ xs.length ∧ i = .int .i64 k ∧ wr.ownsRow w.heap.size 36 3 v L.length (cellsS L) ∧ Below w.heap.size w wr ∧ Hid (L = (xs.take k).map up)) (fun _ i _ => xs.length - (intOf i).toNat)
  case atStart => exact ⟨0, [], by omega, rfl, World.ownsRow_nil _ _ _ _, Below.refl _ _, rfl⟩
  case round =>
    obtain ⟨k, L, hk, rfl, hown, hbel, HL⟩ := hrel
    have hsz : w.heap.size ≤ wr.heap.size := hbel.size
    by_cases hlt : k < xs.length
    · obtain ⟨b, off, rfl, hb, h0, h1⟩ := hA.below hbel k _ (List.getElem?_eq_getElem hlt)
      have hbw : b < wr.heap.size := by omega
      have HT : Hid (L ++ [up xs[k]] = (xs.take (k + 1)).map up) := by rw [Hid, HL.out, List.take_succ_eq_append_getElem hlt, List.map_append]; rfl
      have HLL : L.length ≤ 10000 := by rw [HL.out]; simp; omega
      generalize xs[k] = z at *
      obtain ⟨za, zb⟩ := z
      simp only at h0 h1
      have hkl : (k : Int) < (xs.length : Int) := by omega
      have hk0 : (0 : Int) ≤ (k : Int) := by omega
      have hk1 : (k : Int).toNat = k := Int.toNat_natCast k
      have hown1 := (hown.alloc (.cells #[.int .u64 za, .int .u64 zb] 34)).alloc (.cells #[.int .u64 za, .int .u64 zb, .int .i64 0] 36)
      go_wp2_with (at_builtin; refine wpList_append_own _ rfl _ _ 22 rfl w.heap.size 36 i0 (.agg #[.int .u64 0, .int .u64 0, .int .i64 0]) 3 24 Try.underlying22 hi0 hz0 hz1 hz2 rfl (by decide) _ _ _ rfl hown1 ⟨wr.heap.size + 1, 0, none⟩ 1 1 [.int .u64 za, .int .u64 zb, .int .i64 0] rfl rfl ?c1 ?c2 ?c3 ?c4 ?c5 ?_)
      case c1 =>
        intro j u hj
        match j, hj with
        | 0, hj => simp at hj; subst hj; rw [show Addr.add ⟨wr.heap.size + 1, 0, none⟩ 0 = ⟨wr.heap.size + 1, 0, none⟩ from rfl]; go_cell
        | 1, hj => simp at hj; subst hj; rw [show Addr.add ⟨wr.heap.size + 1, 0, none⟩ 1 = ⟨wr.heap.size + 1, 1, none⟩ from rfl]; go_cell
        | 2, hj => simp at hj; subst hj; rw [show Addr.add ⟨wr.heap.size + 1, 0, none⟩ 2 = ⟨wr.heap.size + 1, 2, none⟩ from rfl]; go_cell
      case c2 => intro u hu; simp at hu; rcases hu with rfl | rfl | rfl <;> rfl
      case c3 => unfold maxLen; omega
      case c4 => omega
      case c5 => simp; omega
      intro v' w2 hown2 hgrow _
      have hB2 := ownBase hown1 ((hbel.alloc hsz _).alloc (by simp; omega) _) (Nat.le_refl _) (by simp; omega) hgrow
      have hown3 : w2.ownsRow w.heap.size 36 3 v' (L ++ [up (za, zb)]).length (cellsS (L ++ [up (za, zb)])) := by
        rw [cellsS_snoc, List.length_append]; exact hown2
      clear hgrow hown hown1 hown2
      go_wp2
      go_roundw
      case rel => exact ⟨k + 1, L ++ [up (za, zb)], by omega, by go_num, hown3, hB2, HT.out⟩
      case measure => simp [intOf]; omega
    · have HL1 : Hid (L = xs.map up) := by rw [Hid, HL.out, List.take_of_length_le (by omega)]
      clear HL hA
      go_wp2
      go_loopw [5, 28] (fun v i wr => ∃ (k : Nat) (L : List SpotT), k ≤ ys.length ∧ i = .int .i64 k ∧ wr.ownsRow w.heap.size 36 3 v L.length (cellsS L) ∧ Below w.heap.size w wr ∧ Hid (L = (xs ++ ys.take k).map up)) (fun _ i _ => ys.length - (intOf i).toNat)
      case atStart => exact ⟨0, L, by omega, rfl, hown, hbel, by rw [Hid, HL1.out]; simp⟩
      case round =>
        clear hown hbel hsz hlt hk HL1
        obtain ⟨k, L, hk, rfl, hown, hbel, HL⟩ := hrel
        have hsz : w.heap.size ≤ wr.heap.size := hbel.size
        by_cases hlt : k < ys.length
        · obtain ⟨b, off, rfl, hb, h0, h1⟩ := hB.below hbel k _ (List.getElem?_eq_getElem hlt)
          have hbw : b < wr.heap.size := by omega
          have HT : Hid (L ++ [up ys[k]] = (xs ++ ys.take (k + 1)).map up) := by rw [Hid, HL.out, List.take_succ_eq_append_getElem hlt, ← List.append_assoc, up_snoc]
          have HLL : L.length ≤ 20000 := by rw [HL.out]; simp; omega
          generalize ys[k] = z at *
          obtain ⟨za, zb⟩ := z
          simp only at h0 h1
          have hkl : (k : Int) < (ys.length : Int) := by omega
          have hk0 : (0 : Int) ≤ (k : Int) := by omega
          have hk1 : (k : Int).toNat = k := Int.toNat_natCast k
          have hown1 := (hown.alloc (.cells #[.int .u64 za, .int .u64 zb] 34)).alloc (.cells #[.int .u64 za, .int .u64 zb, .int .i64 0] 36)
          go_wp2_with (at_builtin; refine wpList_append_own _ rfl _ _ 22 rfl w.heap.size 36 i0 (.agg #[.int .u64 0, .int .u64 0, .int .i64 0]) 3 24 Try.underlying22 hi0 hz0 hz1 hz2 rfl (by decide) _ _ _ rfl hown1 ⟨wr.heap.size + 1, 0, none⟩ 1 1 [.int .u64 za, .int .u64 zb, .int .i64 0] rfl rfl ?c1 ?c2 ?c3 ?c4 ?c5 ?_)
          case c1 =>
            intro j u hj
            match j, hj with
            | 0, hj => simp at hj; subst hj; rw [show Addr.add ⟨wr.heap.size + 1, 0, none⟩ 0 = ⟨wr.heap.size + 1, 0, none⟩ from rfl]; go_cell
            | 1, hj => simp at hj; subst hj; rw [show Addr.add ⟨wr.heap.size + 1, 0, none⟩ 1 = ⟨wr.heap.size + 1, 1, none⟩ from rfl]; go_cell
            | 2, hj => simp at hj; subst hj; rw [show Addr.add ⟨wr.heap.size + 1, 0, none⟩ 2 = ⟨wr.heap.size + 1, 2, none⟩ from rfl]; go_cell
          case c2 => intro u hu; simp at hu; rcases hu with rfl | rfl | rfl <;> rfl
          case c3 => unfold maxLen; omega
          case c4 => omega
          case c5 => simp; omega
          intro v' w2 hown2 hgrow _
          have hB2 := ownBase hown1 ((hbel.alloc hsz _).alloc (by simp; omega) _) (Nat.le_refl _) (by simp; omega) hgrow
          have hown3 : w2.ownsRow w.heap.size 36 3 v' (L ++ [up (za, zb)]).length (cellsS (L ++ [up (za, zb)])) := by
            rw [cellsS_snoc, List.length_append]; exact hown2
          clear hgrow hown hown1 hown2
          go_wp2
          go_roundw
          case rel => exact ⟨k + 1, L ++ [up (za, zb)], by omega, by go_num, hown3, hB2, HT.out⟩
          case measure => simp [intOf]; omega
        · have HL2 : Hid (L = (xs ++ ys).map up) := by rw [Hid, HL.out, List.take_of_length_le (by omega)]
          have hLl : L.length ≤ 20000 := by rw [HL2.out]; simp; omega
          obtain ⟨A1, c1, rfl, hc1, hm1⟩ := ownSlice hown
          have HN := Lib.hid (own_none hown)
          have HRd : Hid (RdS wr wr.heap.size A1 L) := by
            by_cases hL0 : L.length = 0
            · obtain rfl := List.eq_nil_of_length_eq_zero hL0
              exact RdS.nil
            · obtain ⟨g, rfl, _, _⟩ := ownPos hown (by omega)
              exact (ArrS.of_own hown).rd (by omega)
          have HME := Lib.hid (mrg_all xs ys)
          rw [← HL2.out] at HME
          clear HL hB hown HL2
          go_wp2_with fail
          refine (refSort_any A1 L c1 (by omega) HN.out _ HRd.out).mono ?_
          have hSl := sortS_len L
          rintro e w3 ⟨A3, c3, rfl, hr3, hc3, hm3, hb3⟩
          generalize sortS L = S at *
          have hSb : S.length ≤ 20000 := by omega
          clear hSl hLl
          have HR3 := Lib.hid hr3
          have hbel3 := hbel.trans (hb3.mono hbel.size)
          clear HRd HN hb3 hr3 hbel hc1 hm1 hsz hlt hk
          go_wp2
          go_loopw [10, 41] (fun v i wr => ∃ (k : Nat) (O : List HitT), k ≤ S.length ∧ i = .int .i64 k ∧ wr.ownsRow w3.heap.size 34 2 v O.length (cellsH O) ∧ Below w3.heap.size w3 wr ∧ Hid (O = mrg S k)) (fun _ i _ => S.length - (intOf i).toNat)
          case atStart => exact ⟨0, [], by omega, rfl, World.ownsRow_nil _ _ _ _, Below.refl _ _, mrg_zero S⟩
          case round =>
            obtain ⟨k, O, hk, rfl, hown, hbel, HO⟩ := hrel
            obtain ⟨A5, c5, rfl, _, _⟩ := ownSlice hown
            have hsz : w3.heap.size ≤ wr.heap.size := hbel.size
            by_cases hlt : k < S.length
            · obtain ⟨b, off, rfl, hb, h0, h1, h2⟩ := HR3.out.below hbel k _ (spAt_lt hlt)
              have hbw : b < wr.heap.size := by omega
              have hOl : O.length ≤ 20000 := by have := mrg_len S k; rw [HO.out]; omega
              have hkl : (k : Int) < (S.length : Int) := by omega
              have hk0 : (0 : Int) ≤ (k : Int) := by omega
              have hk1 : (k : Int).toNat = k := Int.toNat_natCast k
              have g0 := fun o => (World.cell?_alloc_lt wr o ⟨b, off + k * 3, none⟩ hbw).trans h0
              obtain ⟨⟨⟨sa, sb⟩, sc⟩, hs⟩ : ∃ s, spAt S k = s := ⟨_, rfl⟩
              rw [hs] at h0 h1 h2
              simp only at h0 h1 h2
              have HS := Lib.hid hs
              clear hs g0
              rcases (show k = 0 ∨ ∃ q, k = q + 1 by cases k with | zero => exact .inl rfl | succ q => exact .inr ⟨q, rfl⟩) with rfl | ⟨q, rfl⟩
              · have hO0 : O = [] := HO.out
                subst hO0
                have HN : Hid ([] ++ [(sa, sb)] = mrg S (0 + 1)) := by rw [Hid, mrg_one S hlt, HS.out]; rfl
                clear HO
                rw [show ((0 : Nat) : Int) = 0 from rfl]
                simp only [Nat.zero_mul, Nat.add_zero] at h0 h1 h2
                go_wp2
                go_quiet (fail)
                have hown1 : ((wr.alloc (.cells #[.int .u64 sa, .int .u64 sb, .int .i64 sc] 36)).drewN nq).ownsRow w3.heap.size 34 2 (.slice A5 ([] : List HitT).length c5) ([] : List HitT).length (cellsH []) := hown.alloc _
                have hbel1 : RowKit.Below w3.heap.size w3 ((wr.alloc (.cells #[.int .u64 sa, .int .u64 sb, .int .i64 sc] 36)).drewN nq) := (hbel.alloc hsz _).trans (below_draws _ nq _)
                have hsz1 : w3.heap.size ≤ ((wr.alloc (.cells #[.int .u64 sa, .int .u64 sb, .int .i64 sc] 36)).drewN nq).heap.size := hbel1.size
                have x0 : ((wr.alloc (.cells #[.int .u64 sa, .int .u64 sb, .int .i64 sc] 36)).drewN nq).cell? ⟨wr.heap.size, 0, none⟩ = some (.int .u64 sa) := by go_cell
                have x1 : ((wr.alloc (.cells #[.int .u64 sa, .int .u64 sb, .int .i64 sc] 36)).drewN nq).cell? ⟨wr.heap.size, 1, none⟩ = some (.int .u64 sb) := by go_cell
                generalize (wr.alloc (.cells #[.int .u64 sa, .int .u64 sb, .int .i64 sc] 36)).drewN nq = X at *

                go_wp2_with (at_builtin; refine wpList_append_own _ rfl _ _ 23 rfl w3.heap.size 34 j0 (.agg #[.int .u64 0, .int .u64 0]) 2 16 Try.underlying23 hj0 hy0 hy1 hy2 rfl (by decide) _ _ _ rfl (hown1.alloc _) ⟨X.heap.size, 0, none⟩ 1 1 [.int .u64 sa, .int .u64 sb] rfl rfl ?c1 ?c2 ?c3 ?c4 ?c5 ?_)
                case c1 =>
                  intro j u hj
                  match j, hj with
                  | 0, hj => simp at hj; subst hj; simp [Addr.add]
                  | 1, hj => simp at hj; subst hj; simp [Addr.add]
                case c2 => intro u hu; simp at hu; rcases hu with rfl | rfl <;> rfl
                case c3 => unfold maxLen; omega
                case c4 => omega
                case c5 => simp; omega
                intro v' w2 hown2 hgrow _
                have hB2 := ownBase (hown1.alloc _) (hbel1.alloc hsz1 _) (Nat.le_refl _) (by simp; omega) hgrow
                have hown3 : w2.ownsRow w3.heap.size 34 2 v' ([] ++ [(sa, sb)]).length (cellsH ([] ++ [(sa, sb)])) := by
                  rw [cellsH_snoc, List.length_append]; exact hown2
                clear hgrow hown1 hown2
                go_wp2
                go_roundw
                case rel => exact ⟨0 + 1, _, by omega, by go_num, hown3, hB2, HN.out⟩
                case measure => simp [intOf]; omega
              · obtain ⟨O', hO'⟩ := mrg_last S q (by omega)
                obtain ⟨m, hm⟩ : ∃ m, O'.length = m := ⟨_, rfl⟩
                have hOe : O = O' ++ [(spAt S q).1] := HO.out.trans hO'
                have hOm : O.length = m + 1 := by rw [hOe]; simp [hm]
                obtain ⟨⟨pa, pb⟩, hp⟩ : ∃ p, (spAt S q).1 = p := ⟨_, rfl⟩
                obtain ⟨g5, rfl, hg5, hgw5⟩ := ownPos hown (by omega)
                have hget : ∀ c, c < 2 → (cellsH O)[m * 2 + c]? = some ((encH (pa, pb))[c]!) := fun c hc => by
                  have h := cellsH_get O m c (by omega) hc
                  rw [h]
                  congr 2
                  have : O[m]? = some (pa, pb) := by rw [hOe, List.getElem?_append_right (by omega), hm, Nat.sub_self, ← hp]; rfl
                  rw [List.getElem?_eq_getElem (by omega)] at this
                  injection this with this
                  rw [this]
                have hown0 := hown.alloc (.cells #[.int .u64 sa, .int .u64 sb, .int .i64 sc] 36)
                have p0 : (wr.alloc (.cells #[.int .u64 sa, .int .u64 sb, .int .i64 sc] 36)).cell? ⟨g5, m * 2, none⟩ = some (.int .u64 pa) := by
                  have := hget 0 (by decide)
                  rw [← hown0.cellAt _ (by omega)] at this
                  exact this
                have p1 : (wr.alloc (.cells #[.int .u64 sa, .int .u64 sb, .int .i64 sc] 36)).cell? ⟨g5, m * 2 + 1, none⟩ = some (.int .u64 pb) := by
                  have := hget 1 (by decide)
                  rw [← hown0.cellAt _ (by omega)] at this
                  exact this
                have HPP := Lib.hid hp
                have k2 : ¬ (O.length : Int) = 0 := by omega
                have k3 : (0 : Int) ≤ (m : Int) := by omega
                have k4 : (m : Int) < (O.length : Int) := by omega
                have k5 : (m : Int).toNat = m := Int.toNat_natCast m
                have e1 : IntKind.i64.wrap ((O.length : Int) - 1) = (m : Int) := by
                  rw [IntWalk.i64_in _ (by omega)]
                  omega
                have HOm := Lib.hid hOm
                clear hown0 hget hOe hO' hm hp hOm
                obtain ⟨n, hOn⟩ : ∃ n, O.length = n := ⟨_, rfl⟩
                rw [hOn] at hown hOl k2 k4 e1
                rw [hOn]
                have HOn := Lib.hid hOn
                clear hOn HOm
                have k6 : ¬ n = 0 := by omega
                have k7 : ((n : Int) == 0) = false := by simpa using k2
                have k8 : decide ((n : Int) = 0) = false := by simpa using k2
                have k9 : (n == 0) = false := by simpa using k6
                have hqS : q + 1 < S.length := hlt
                by_cases hsame : pa = sa ∧ pb = sb
                · obtain ⟨rfl, rfl⟩ := hsame
                  have HN : Hid (O = mrg S (q + 1 + 1)) := by rw [Hid, mrg_same S q hqS (by rw [HS.out, HPP.out])]; exact HO.out
                  go_wp2
                  go_quiet (fail)
                  have hown1 : ((wr.alloc (.cells #[.int .u64 pa, .int .u64 pb, .int .i64 sc] 36)).drewN nq).ownsRow w3.heap.size 34 2 (.slice (some ⟨g5, 0, none⟩) n c5) n (cellsH O) := hown.alloc _
                  have hbel1 : RowKit.Below w3.heap.size w3 ((wr.alloc (.cells #[.int .u64 pa, .int .u64 pb, .int .i64 sc] 36)).drewN nq) := (hbel.alloc hsz _).trans (below_draws _ nq _)
                  have hsz1 : w3.heap.size ≤ ((wr.alloc (.cells #[.int .u64 pa, .int .u64 pb, .int .i64 sc] 36)).drewN nq).heap.size := hbel1.size
                  clear p0 p1 e1
                  go_wp2
                  go_roundw
                  case rel => exact ⟨q + 1 + 1, O, by omega, by go_num, by rw [HOn.out]; exact hown1, hbel1, HN.out⟩
                  case measure => simp [intOf]; omega
                · have HN : Hid (O ++ [(sa, sb)] = mrg S (q + 1 + 1)) := by
                    rw [Hid, mrg_more S q hqS (by rw [HS.out, HPP.out]; intro e; injection e with e1 e2; exact hsame ⟨e1.symm, e2.symm⟩), HS.out]
                    rw [← HO.out]
                  have hways : (¬ pa = sa) ∨ (pa = sa ∧ ¬ pb = sb) := by omega
                  clear hsame
                  rcases hways with hne | ⟨rfl, hne⟩
                  · go_wp2
                    go_quiet (fail)
                    have hown1 : ((wr.alloc (.cells #[.int .u64 sa, .int .u64 sb, .int .i64 sc] 36)).drewN nq).ownsRow w3.heap.size 34 2 (.slice (some ⟨g5, 0, none⟩) n c5) n (cellsH O) := hown.alloc _
                    have hbel1 : RowKit.Below w3.heap.size w3 ((wr.alloc (.cells #[.int .u64 sa, .int .u64 sb, .int .i64 sc] 36)).drewN nq) := (hbel.alloc hsz _).trans (below_draws _ nq _)
                    have hsz1 : w3.heap.size ≤ ((wr.alloc (.cells #[.int .u64 sa, .int .u64 sb, .int .i64 sc] 36)).drewN nq).heap.size := hbel1.size
                    clear p0 p1 e1
                    have x0 : ((wr.alloc (.cells #[.int .u64 sa, .int .u64 sb, .int .i64 sc] 36)).drewN nq).cell? ⟨wr.heap.size, 0, none⟩ = some (.int .u64 sa) := by go_cell
                    have x1 : ((wr.alloc (.cells #[.int .u64 sa, .int .u64 sb, .int .i64 sc] 36)).drewN nq).cell? ⟨wr.heap.size, 1, none⟩ = some (.int .u64 sb) := by go_cell
                    generalize (wr.alloc (.cells #[.int .u64 sa, .int .u64 sb, .int .i64 sc] 36)).drewN nq = X at *
                    go_wp2_with (at_builtin; refine wpList_append_own _ rfl _ _ 23 rfl w3.heap.size 34 j0 (.agg #[.int .u64 0, .int .u64 0]) 2 16 Try.underlying23 hj0 hy0 hy1 hy2 rfl (by decide) _ _ _ rfl (hown1.alloc _) ⟨X.heap.size, 0, none⟩ 1 1 [.int .u64 sa, .int .u64 sb] rfl rfl ?c1 ?c2 ?c3 ?c4 ?c5 ?_)
                    case c1 =>
                      intro j u hj
                      match j, hj with
                      | 0, hj => simp at hj; subst hj; simp [Addr.add]
                      | 1, hj => simp at hj; subst hj; simp [Addr.add]
                    case c2 => intro u hu; simp at hu; rcases hu with rfl | rfl <;> rfl
                    case c3 => unfold maxLen; omega
                    case c4 => omega
                    case c5 => simp; omega
                    intro v' w2 hown2 hgrow _
                    have hB2 := ownBase (hown1.alloc _) (hbel1.alloc hsz1 _) (Nat.le_refl _) (by simp; omega) hgrow
                    have hown3 : w2.ownsRow w3.heap.size 34 2 v' (O ++ [(sa, sb)]).length (cellsH (O ++ [(sa, sb)])) := by
                      rw [cellsH_snoc, List.length_append, HOn.out]; exact hown2
                    clear hgrow hown1 hown2
                    go_wp2
                    go_roundw
                    case rel => exact ⟨q + 1 + 1, _, by omega, by go_num, hown3, hB2, HN.out⟩
                    case measure => simp [intOf]; omega

                  · go_wp2
                    go_quiet (fail)
                    have hown1 : ((wr.alloc (.cells #[.int .u64 pa, .int .u64 sb, .int .i64 sc] 36)).drewN nq).ownsRow w3.heap.size 34 2 (.slice (some ⟨g5, 0, none⟩) n c5) n (cellsH O) := hown.alloc _
                    have hbel1 : RowKit.Below w3.heap.size w3 ((wr.alloc (.cells #[.int .u64 pa, .int .u64 sb, .int .i64 sc] 36)).drewN nq) := (hbel.alloc hsz _).trans (below_draws _ nq _)
                    have hsz1 : w3.heap.size ≤ ((wr.alloc (.cells #[.int .u64 pa, .int .u64 sb, .int .i64 sc] 36)).drewN nq).heap.size := hbel1.size
                    clear p0 p1 e1
                    have x0 : ((wr.alloc (.cells #[.int .u64 pa, .int .u64 sb, .int .i64 sc] 36)).drewN nq).cell? ⟨wr.heap.size, 0, none⟩ = some (.int .u64 pa) := by go_cell
                    have x1 : ((wr.alloc (.cells #[.int .u64 pa, .int .u64 sb, .int .i64 sc] 36)).drewN nq).cell? ⟨wr.heap.size, 1, none⟩ = some (.int .u64 sb) := by go_cell
                    generalize (wr.alloc (.cells #[.int .u64 pa, .int .u64 sb, .int .i64 sc] 36)).drewN nq = X at *
                    go_wp2_with (at_builtin; refine wpList_append_own _ rfl _ _ 23 rfl w3.heap.size 34 j0 (.agg #[.int .u64 0, .int .u64 0]) 2 16 Try.underlying23 hj0 hy0 hy1 hy2 rfl (by decide) _ _ _ rfl (hown1.alloc _) ⟨X.heap.size, 0, none⟩ 1 1 [.int .u64 pa, .int .u64 sb] rfl rfl ?c1 ?c2 ?c3 ?c4 ?c5 ?_)
                    case c1 =>
                      intro j u hj
                      match j, hj with
                      | 0, hj => simp at hj; subst hj; simp [Addr.add]
                      | 1, hj => simp at hj; subst hj; simp [Addr.add]
                    case c2 => intro u hu; simp at hu; rcases hu with rfl | rfl <;> rfl
                    case c3 => unfold maxLen; omega
                    case c4 => omega
                    case c5 => simp; omega
                    intro v' w2 hown2 hgrow _
                    have hB2 := ownBase (hown1.alloc _) (hbel1.alloc hsz1 _) (Nat.le_refl _) (by simp; omega) hgrow
                    have hown3 : w2.ownsRow w3.heap.size 34 2 v' (O ++ [(pa, sb)]).length (cellsH (O ++ [(pa, sb)])) := by
                      rw [cellsH_snoc, List.length_append, HOn.out]; exact hown2
                    clear hgrow hown1 hown2
                    go_wp2
                    go_roundw
                    case rel => exact ⟨q + 1 + 1, _, by omega, by go_num, hown3, hB2, HN.out⟩
                    case measure => simp [intOf]; omega

            · obtain rfl : k = S.length := by omega
              have HE : Hid (O = mergeH xs ys) := HO.out.trans HME.out
              have HR := Lib.hid (RdH.of_own hown)
              have hbf := hbel3.trans (hbel.mono hbel3.size)
              clear hown
              go_wp2
              go_ret
              rw [← HE.out]
              exact ⟨A5, c5, rfl, HR.out, hbf⟩

end Go.Proofs.Ytamgmbjcobomhaa
