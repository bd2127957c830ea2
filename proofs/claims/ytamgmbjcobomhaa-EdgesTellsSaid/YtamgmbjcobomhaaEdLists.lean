/- Lists of neighbours: slices.Concat at numbers, edges.With, Without, by contract. -/
import Derived.Test.YtamgmbjcobomhaaEdInts
import Derived.RangeFuncRecord
import Derived.Handy
namespace Go.Proofs.Ytamgmbjcobomhaa
open Go.RowKit Go.Shelf

set_option maxHeartbeats 1000000 in
/-- slices.Grow of nothing: an empty slice, in memory of the call's own. -/
theorem GrowI_any (n : Nat) (w : World) (hn : n ≤ 1000000000000) :
    Calls Try.prog 99 #[.slice none 0 0, .int .i64 n] w fun e w' => (∃ v, e = .returned v ∧ w'.ownsRow w.heap.size 3 1 v 0 []) ∧ Below w.heap.size w w' := by
  obtain ⟨i0, hi0, hz0, hz1, hz2⟩ := info_parts info_int
  by_cases h0 : n = 0
  · subst h0
    exact (Any8.slices_Grow_room Try.growInt none 0 0 0 w (Nat.le_refl _) (by omega) (by omega) (Nat.le_refl _)).mono fun e w' ⟨he, hw⟩ => ⟨⟨_, he, World.ownsRow_nil _ _ _ _⟩, hw ▸ Below.refl _ _⟩
  · refine (Any8.slices_Grow_grow Try.growInt i0 _ hi0 hz0 (by rw [hz1]; decide) none 0 0 n [] w (Nat.le_refl _) (by omega) (by rw [hz2]; omega) (by omega) (by simp) (fun _ => rfl) (fun a h => by cases h)).mono fun e w' ⟨he, hw⟩ => ?_
    have ht : Try.growInt_ren.t 25 = 3 := rfl
    rw [ht] at he hw
    subst hw
    have hg1 := grownCap_ge w (0 + n) 0 3
    have hg2 := grownCap_le_maxLen w (0 + n) 0 3 (by unfold maxLen; omega)
    generalize grownCap w (0 + n) 0 3 = G at *
    refine ⟨⟨_, he, by simp, .inr ⟨w.heap.size, G, _, rfl, Nat.le_refl _, World.alloc_heap_new w.drew _, Nat.zero_le _, hg2, ?_, by simp⟩⟩, ?_⟩
    · simp [Builtin.zeroCells, Value.cells]
      omega
    · exact (Below.refl _ w).drew.alloc (Nat.le_refl _) _

set_option maxRecDepth 100000 in
set_option maxHeartbeats 4000000 in
theorem ConcatI_any (A B : Option Addr) (xs ys : List Int) (ca cb : Nat) (H : Nat) (w : World) (hA : Rd (Value.int .i64) w w.heap.size A xs) (hB : Rd (Value.int .i64) w w.heap.size B ys) (hx : xs.length ≤ 100000) (hy : ys.length ≤ 100000)
    (hcA : A = none → ca = 0) (hcB : B = none → cb = 0) (hH : H < w.heap.size) (h0 : w.cell? ⟨H, 0, none⟩ = some (.slice A xs.length ca)) (h1 : w.cell? ⟨H, 1, none⟩ = some (.slice B ys.length cb)) :
    Calls Try.prog 81 #[.slice (some ⟨H, 0, none⟩) 2 2] w (IntsOut (xs ++ ys) w) := by
  obtain ⟨i0, hi0, hz0, hz1, hz2⟩ := info_parts info_int
  go_enter Try.func81, Try.ntmps81
  go_wp2
  go_loop [3, 11] (fun s i => ∃ k t : Nat, k ≤ 2 ∧ i = .int .i64 k ∧ s = .int .i64 t ∧ t = (if k = 0 then 0 else if k = 1 then xs.length else xs.length + ys.length)) (fun _ i => 2 - (intOf i).toNat)
  case atStart => exact ⟨0, 0, by omega, rfl, rfl, rfl⟩
  case round =>
    obtain ⟨k, t, hk, rfl, rfl, ht⟩ := hrel
    rcases (show k = 0 ∨ k = 1 ∨ k = 2 by omega) with rfl | rfl | rfl
    · simp only [if_true] at ht
      subst ht
      go_wp2
      go_round
      case rel => exact ⟨1, xs.length, by omega, by go_num, by go_num, rfl⟩
      case measure => simp [intOf]
    · obtain rfl : t = xs.length := ht
      go_wp2
      go_round
      case rel => exact ⟨2, xs.length + ys.length, by omega, by go_num, by go_num, rfl⟩
      case measure => simp [intOf]
    · obtain rfl : t = xs.length + ys.length := ht
      go_wp2_with fail
      refine (GrowI_any (xs.length + ys.length) _ (by omega)).mono ?_
      rintro e w1 ⟨⟨v, rfl, hown⟩, hb⟩
      have g0 := (hb.cell (p := ⟨H, 0, none⟩) hH).trans h0
      have g1 := (hb.cell (p := ⟨H, 1, none⟩) hH).trans h1
      have qA := hA.below hb
      have qB := hB.below hb
      go_wp2
      go_loopw [6, 27] (fun v i wr => ∃ (k : Nat) (L : List Int), k ≤ 2 ∧ i = .int .i64 k ∧ wr.ownsRow w.heap.size 3 1 v L.length (L.map (Value.int .i64)) ∧ Below w.heap.size w1 wr ∧ Hid (L = (if k = 0 then [] else if k = 1 then xs else xs ++ ys))) (fun _ i _ => 2 - (intOf i).toNat)
      case atStart => exact ⟨0, [], by omega, rfl, hown, Below.refl _ _, rfl⟩
      case round =>
        clear hown
        obtain ⟨k, L, hk, rfl, hown, hbel, HL⟩ := hrel
        have hsz : w.heap.size ≤ wr.heap.size := Nat.le_trans hb.size hbel.size
        have f0 := (hbel.cell (p := ⟨H, 0, none⟩) hH).trans g0
        have f1 := (hbel.cell (p := ⟨H, 1, none⟩) hH).trans g1
        clear h0 h1 g0 g1
        rcases (show k = 0 ∨ k = 1 ∨ k = 2 by omega) with rfl | rfl | rfl
        · obtain rfl : L = [] := HL.out
          have q := qA.below hbel
          cases A with
          | none =>
            have hn := q.none_nil
            have hf : wr.cell? ⟨H, 0, none⟩ = some (.slice none 0 0) := by rw [f0, hn, hcA rfl]; rfl
            have HN := Lib.hid hn
            clear HL f0 q hn hcA
            go_wp2_with (at_builtin; refine wpList_append_own_none rfl _ _ 60 rfl w.heap.size 3 i0 1 Try.underlying60 hi0 _ _ _ rfl hown rfl ?_)
            go_roundw
            case rel => exact ⟨1, [], by omega, by go_num, hown, hbel, by rw [Hid, HN.out]; simp⟩
            case measure => simp [intOf]
          | some ad =>
            clear HL
            go_wp2_with (at_builtin; refine wpList_append_own _ rfl _ _ 60 rfl w.heap.size 3 i0 (.int .i64 0) 1 8 Try.underlying60 hi0 hz0 hz1 hz2 rfl (by decide) _ _ _ rfl hown ad xs.length ca (xs.map (Value.int .i64)) rfl (by simp) q.news ints_one (by unfold maxLen; simp only [List.length_nil]; omega) (by simp only [List.length_nil]; omega) hsz ?_)
            intro v' w2 hown2 hgrow _
            have hB2 := ownBase hown hbel (Nat.le_refl _) hsz hgrow
            have hown3 : w2.ownsRow w.heap.size 3 1 v' (xs).length (xs.map (Value.int .i64)) := by
              simpa using hown2
            clear hgrow hown hown2
            go_wp2
            go_roundw
            case rel => exact ⟨1, xs, by omega, by go_num, hown3, hB2, rfl⟩
            case measure => simp [intOf]
        · have hL : xs = L := HL.out.symm
          subst hL
          have q := qB.below hbel
          cases B with
          | none =>
            have hn := q.none_nil
            have hf : wr.cell? ⟨H, 1, none⟩ = some (.slice none 0 0) := by rw [f1, hn, hcB rfl]; rfl
            have HN := Lib.hid hn
            clear HL f1 q hn hcB
            go_wp2_with (at_builtin; refine wpList_append_own_none rfl _ _ 60 rfl w.heap.size 3 i0 1 Try.underlying60 hi0 _ _ _ rfl hown rfl ?_)
            go_roundw
            case rel => exact ⟨2, xs, by omega, by go_num, hown, hbel, by rw [Hid, HN.out]; simp⟩
            case measure => simp [intOf]
          | some ad =>
            clear HL
            go_wp2_with (at_builtin; refine wpList_append_own _ rfl _ _ 60 rfl w.heap.size 3 i0 (.int .i64 0) 1 8 Try.underlying60 hi0 hz0 hz1 hz2 rfl (by decide) _ _ _ rfl hown ad ys.length cb (ys.map (Value.int .i64)) rfl (by simp) q.news ints_one (by unfold maxLen; omega) (by omega) hsz ?_)
            intro v' w2 hown2 hgrow _
            have hB2 := ownBase hown hbel (Nat.le_refl _) hsz hgrow
            have hown3 : w2.ownsRow w.heap.size 3 1 v' (xs ++ ys).length ((xs ++ ys).map (Value.int .i64)) := by
              rw [List.map_append, List.length_append]; exact hown2
            clear hgrow hown hown2
            go_wp2
            go_roundw
            case rel => exact ⟨2, xs ++ ys, by omega, by go_num, hown3, hB2, rfl⟩
            case measure => simp [intOf]
        · obtain rfl : L = xs ++ ys := HL.out
          go_wp2
          go_ret
          exact IntsOut.of_own hown (hb.trans hbel)

/-- The list with a number. -/
def withI (zs : List Int) (n : Int) : List Int := if hasI zs n = true then zs else zs ++ [n]

set_option maxHeartbeats 2000000 in
theorem With_any (A : Option Addr) (zs : List Int) (c : Nat) (n : Int) (w : World) (hA : Rd (Value.int .i64) w w.heap.size A zs) (hl : zs.length ≤ 100000) (hcA : A = none → c = 0) :
    Calls Try.prog 47 #[.slice A zs.length c, .int .i64 n] w (IntsOut (withI zs n) w) := by
  by_cases h : hasI zs n = true
  · have hr : withI zs n = zs := if_pos h
    rw [hr]; clear hr
    have HH := Lib.hid h
    clear h
    go_enter Try.func47, Try.ntmps47
    go_wp2_with fail
    refine (Has_any A zs c n _ hA (by omega)).mono ?_
    rw [HH.out]
    rintro e w' ⟨rfl, rfl⟩
    go_wp2_with fail
    refine (Clone_any A zs c _ hA hl hcA).mono ?_
    rintro e w2 ⟨A2, c2, rfl, h1, h2, h3, h4, h5⟩
    have H1 := Lib.hid h2
    clear h2
    go_wp2
    go_ret
    exact ⟨A2, c2, rfl, h1, H1.out, h3, h4, h5⟩
  · have hr : withI zs n = zs ++ [n] := if_neg h
    rw [hr]; clear hr
    have h' : hasI zs n = false := by simpa using h
    have HH := Lib.hid h'
    clear h h'
    go_enter Try.func47, Try.ntmps47
    go_wp2_with fail
    refine (Has_any A zs c n _ hA (by omega)).mono ?_
    rw [HH.out]
    rintro e w' ⟨rfl, rfl⟩
    have hb0 : ∀ o o', Below w.heap.size w ((w.alloc o).alloc o') := fun o o' => ((Below.refl _ w).alloc (Nat.le_refl _) o).alloc (by simp) o'
    have HB := Lib.hid hb0
    have HC := Lib.hid hcA
    clear hcA hb0
    go_wp2_with fail
    refine Calls.mono (ConcatI_any A (some ⟨w.heap.size, 0, none⟩) zs [n] c 1 (w.heap.size + 1) _ ?c1 ?c2 (by omega) (by simp) HC.out (by simp) ?c3 ?c4 ?c5) ?_
    case c1 => exact (hA.below (HB.out _ _)).more (by simp; omega)
    case c2 =>
      intro k z hz
      match k, hz with
      | 0, hz => simp at hz; subst hz; exact ⟨w.heap.size, 0, rfl, by go_size, by go_cell⟩
    case c3 => simp
    case c4 => go_cell
    case c5 => go_cell
    rintro e w2 ⟨A2, c2, rfl, h1, h2, h3, h4, h5⟩
    have H1 := Lib.hid h2
    clear h2
    have H5 := Lib.hid ((HB.out _ _).trans (h5.mono (by simp; omega)))
    clear h5
    go_wp2
    go_ret
    exact ⟨A2, c2, by simp, h1, H1.out, h3, h4, H5.out⟩

/-- The list without a number. -/
def withoutI (zs : List Int) (n : Int) : List Int := zs.filter fun z => decide (¬ z = n)
theorem withoutI_snoc (zs : List Int) (n z : Int) : withoutI (zs ++ [z]) n = if z = n then withoutI zs n else withoutI zs n ++ [z] := by
  unfold withoutI
  rw [List.filter_append]
  by_cases h : z = n <;> simp [h]
theorem withoutI_len (zs : List Int) (n : Int) : (withoutI zs n).length ≤ zs.length := List.length_filter_le _ _
theorem take_snocI {zs : List Int} {k : Nat} (h : k < zs.length) : zs.take (k + 1) = zs.take k ++ [zs[k]] := List.take_succ_eq_append_getElem h

set_option maxRecDepth 100000 in
set_option maxHeartbeats 2000000 in
theorem Without_any (A : Option Addr) (zs : List Int) (c : Nat) (n : Int) (w : World) (hA : Rd (Value.int .i64) w w.heap.size A zs) (hl : zs.length ≤ 100000) :
    Calls Try.prog 49 #[.slice A zs.length c, .int .i64 n] w (IntsOut (withoutI zs n) w) := by
  obtain ⟨i0, hi0, hz0, hz1, hz2⟩ := info_parts info_int
  have hb8 : i0.bytes * zs.length ≤ 281474976710656 := by rw [hz2]; omega
  have hml : zs.length ≤ maxLen := by unfold maxLen; omega
  go_enter Try.func49, Try.ntmps49
  go_wp2_with (at_make; refine wpList_make_own _ rfl _ _ _ rfl w.heap.size 3 i0 (.int .i64 0) 1 Try.underlying60 hi0 hz0 hz1 _ _ _ zs.length rfl rfl rfl hb8 hml (Nat.le_refl _) ?_; intro w1 hown hgr)
  have hbel : Below w.heap.size w w1 := (Below.refl _ _).grown hgr (Nat.le_refl _) (fun _ h => by cases h)
  clear hgr hb8 hml
  go_wp2
  go_loopw [5, 13] (fun v i wr => ∃ (k : Nat) (L : List Int), k ≤ zs.length ∧ i = .int .i64 k ∧ wr.ownsRow w.heap.size 3 1 v L.length (L.map (Value.int .i64)) ∧ Hid (L = withoutI (zs.take k) n) ∧ Below w.heap.size w wr) (fun _ i _ => zs.length - (intOf i).toNat)
  case atStart => exact ⟨0, [], Nat.zero_le _, rfl, by simpa using hown, rfl, hbel⟩
  case round =>
    clear hown hbel
    obtain ⟨k, L, hk, rfl, hown, HL, hbel⟩ := hrel
    have hsz : w.heap.size ≤ wr.heap.size := hbel.size
    by_cases hlt : k < zs.length
    · obtain ⟨b, off, rfl, hb, h0⟩ := hA.below hbel k _ (List.getElem?_eq_getElem hlt)
      have HT := Lib.hid (take_snocI hlt)
      have HLL : L.length ≤ zs.length := by rw [HL.out]; exact Nat.le_trans (withoutI_len _ _) (by simp; omega)
      generalize zs[k] = z at *
      have HS := Lib.hid (withoutI_snoc (zs.take k) n z)
      have hkl : (k : Int) < (zs.length : Int) := by omega
      have hk0 : (0 : Int) ≤ (k : Int) := by omega
      by_cases hx : z = n
      · subst hx
        go_wp2
        go_roundw
        case rel => exact ⟨k + 1, L, by omega, by go_num, hown, by rw [Hid, HT.out, HS.out, if_pos rfl]; exact HL.out, hbel⟩
        case measure => simp [intOf]; omega
      · go_wp2_with (at_builtin; refine wpList_append_own _ rfl _ _ 60 rfl w.heap.size 3 i0 (.int .i64 0) 1 8 Try.underlying60 hi0 hz0 hz1 hz2 rfl (by decide) _ _ _ rfl (hown.alloc _) ⟨wr.heap.size, 0, none⟩ 1 1 [.int .i64 z] rfl rfl ?c1 ?c2 ?c3 ?c4 ?c5 ?_)
        case c1 =>
          intro j u hj
          match j, hj with
          | 0, hj => simp at hj; subst hj; simp [Addr.add]
        case c2 => intro u hu; simp at hu; subst hu; rfl
        case c3 => unfold maxLen; omega
        case c4 => omega
        case c5 => simp; omega
        intro v' w2 hown2 hgrow _
        have hB2 := ownBase (hown.alloc _) (hbel.alloc hsz _) (Nat.le_refl _) (by simp; omega) hgrow
        have hown3 : w2.ownsRow w.heap.size 3 1 v' (L ++ [z]).length ((L ++ [z]).map (Value.int .i64)) := by
          rw [List.map_append, List.length_append]; exact hown2
        clear hgrow hown hown2
        go_wp2
        go_roundw
        case rel => exact ⟨k + 1, L ++ [z], by omega, by go_num, hown3, by rw [Hid, HT.out, HS.out, if_neg hx, ← HL.out], hB2⟩
        case measure => simp [intOf]; omega
    · have HE : Hid (L = withoutI zs n) := by
        rw [Hid, HL.out, List.take_of_length_le (by omega)]
      go_wp2
      go_ret
      rw [← HE.out]
      exact IntsOut.of_own hown hbel

end Go.Proofs.Ytamgmbjcobomhaa
