/- lock's Held, by contract: a map's keys, gathered in whatever order, and sorted. -/
import Derived.Test.YtdgmcaehadigaaaLckRing
import Derived.Sort.OwnSortedInts
namespace Go.Proofs.Ytdgmcaehadigaaa
open Go.RowKit Go.Maps Go.Sort

/-- What has been met of w's mutexes. -/
def Met (x : LX) (v : Int) (left : Lit → Bool) (ks : List Int) : Prop := ks.Nodup ∧ ∀ j, j ∈ ks ↔ hold x.hs j = some v ∧ left (.int .i64 j) = false
theorem Met.yes {x : LX} {v : Int} {left : Lit → Bool} {ks : List Int} (h : Met x v left ks) {k : Int} (hk : hold x.hs k = some v) (hl : left (.int .i64 k) = true) : Met x v (fun z => left z && !z.sameKey (.int .i64 k)) (ks ++ [k]) := by
  have hn : ¬ k ∈ ks := fun e => by
    have := ((h.2 k).1 e).2
    rw [hl] at this
    cases this
  refine ⟨?_, fun j => ?_⟩
  · rw [List.nodup_append]
    refine ⟨h.1, by simp, fun a ha b hb e => ?_⟩
    simp only [List.mem_singleton] at hb
    subst hb
    exact hn (e ▸ ha)
  · rw [List.mem_append, h.2, List.mem_singleton]
    constructor
    · rintro (⟨h1, h2⟩ | rfl)
      · exact ⟨h1, by simp only [h2, Bool.false_and]⟩
      · exact ⟨hk, by simp only [hl, Bool.true_and, WideAt.sameKey_self (show WideAt.IsKeyLit (.int .i64 j) from trivial)]; rfl⟩
    · rintro ⟨h1, h2⟩
      rcases left_two h2 with h3 | h3
      · exact .inl ⟨h1, h3⟩
      · exact .inr h3
theorem Met.no {x : LX} {v c : Int} {left : Lit → Bool} {ks : List Int} (h : Met x v left ks) {k : Int} (hk : hold x.hs k = some c) (hc : c ≠ v) : Met x v (fun z => left z && !z.sameKey (.int .i64 k)) ks := by
  refine ⟨h.1, fun j => ?_⟩
  rw [h.2]
  constructor
  · rintro ⟨h1, h2⟩
    exact ⟨h1, by simp only [h2, Bool.false_and]⟩
  · rintro ⟨h1, h2⟩
    rcases left_two h2 with h3 | rfl
    · exact ⟨h1, h3⟩
    · rw [hk] at h1
      injection h1 with h1
      exact absurd h1 hc
theorem Met.few {x : LX} (hx : LFit x) {v : Int} {left : Lit → Bool} {ks : List Int} (h : Met x v left ks) : ks.length ≤ 4097 := by
  have hb : ∀ k ∈ ks, 0 ≤ k ∧ k ≤ 4096 := fun k hk => (hx.hw _ _ (hold_some ((h.2 k).1 hk).1)).1
  have hL : (ks.map Int.toNat).Nodup := by
    rw [List.nodup_iff_pairwise_ne, List.pairwise_map]
    refine List.Pairwise.imp_of_mem ?_ (List.nodup_iff_pairwise_ne.1 h.1)
    intro a b ha hb' hne e
    have := hb a ha
    have := hb b hb'
    omega
  have := nodup_le 4097 _ hL (fun a ha => by
    obtain ⟨k, hk, rfl⟩ := List.mem_map.1 ha
    have := hb k hk
    omega)
  simpa using this

set_option maxRecDepth 100000 in
set_option maxHeartbeats 2000000 in
theorem Held_any {w : World} {p : Value} {x : LX} (h : TabO w p x) (hx : LFit x) (v : Int) :
    Calls Try.prog 34 #[p, .int .i64 v] w (IntsNew (heldL x.hs v) w) := by
  rcases h with ⟨rfl, rfl⟩ | ⟨B, bh, bw, n, rfl, h⟩
  · have hn : heldL [] v = [] := List.eq_nil_iff_forall_not_mem.2 fun k hk => by
      have := (heldL_mem LFit.nil).1 hk
      cases this
    have HO := Lib.hid (show IntsNew (heldL [] v) w (.returned (.slice none 0 0)) w by
      rw [hn]
      exact IntsNew.nil (Below.refl _ _))
    clear hn hx
    go_enter Try.func34, Try.ntmps34
    go_wp2
    go_ret
    exact HO.out
  · obtain ⟨i0, hi0, hz0, hz1, hz2⟩ := info_parts info_int
    have hc := h.c0
    have hbl := h.mh.lt
    obtain ⟨D, hown0, hat0⟩ := h.mh
    have HD := Lib.hid hat0
    have HX := Lib.hid hx
    clear h hat0 hx
    go_enter Try.func34, Try.ntmps34
    go_wp2_with (first
      | (at_range; refine wpList_range_own _ rfl _ 139 rfl 3 3 law_int under_map _ bh n _ rfl hown0 ?_; intro w0 hrg0 hg0 hs0)
      | go_in)
    go_frame
    go_loopw [5] (fun s wr => ∃ (left : Lit → Bool) (cnt : Nat) (ks : List Int), wr.ranges Try.prog 3 (plainElem Try.prog 3) bh w.heap.size n D left cnt ∧ wr.ownsRow (w.heap.size + 1) 3 1 s ks.length (ks.map (Value.int .i64)) ∧ Below w.heap.size w wr ∧ Hid (Met x v left ks))
      (fun _ wr => wr.rangeLeft bh w.heap.size)
    case atStart => exact ⟨_, _, [], hrg0, World.ownsRow_nil _ _ _ _, (Below.refl _ _).grown hg0 (Nat.le_refl _) (fun j hj => by cases hj), by simp, fun j => ⟨fun e => by simp at e, fun ⟨he, hj⟩ => by
      have := atO_has ((HD.out j (isI_mutex HX.out he)).trans he)
      rw [this] at hj
      cases hj⟩⟩
    case round =>
      obtain ⟨left, cnt, ks, hrg, hrow, hb, HM⟩ := hrel
      go_wp2_with (first
        | (at_next; refine wpList_next_ranges_ii _ rfl _ rfl 3 3 .i64 .i64 law_int Try.underlying3 Try.underlying3 bh w.heap.size n _ _ _ rfl hrg ?_ ?_)
        | go_in)
      · intro _ hl0
        have hks : (ks.mergeSort fun a b => decide (a ≤ b)) = heldL x.hs v := held_sorted HX.out HM.out.1 (fun k => by
          rw [HM.out.2]
          exact ⟨fun h => h.1, fun h => ⟨h, hl0 _⟩⟩)
        have hfew := HM.out.few HX.out
        have hlen : (heldL x.hs v).length = ks.length := by rw [← hks, List.length_mergeSort]
        rcases hrow.2 with ⟨rfl, h0⟩ | ⟨g, cap, cur, rfl, hbase, hg, h1, h2, h3, h4⟩
        · have hnil : heldL x.hs v = [] := List.eq_nil_of_length_eq_zero (by omega)
          have HO := Lib.hid (show IntsNew (heldL x.hs v) w (.returned (.slice none 0 0)) wr by
            rw [hnil]
            exact IntsNew.nil hb)
          have HS : Hid (Calls Try.prog 91 #[.slice none 0 0] wr fun e w' => e = .returned (.tuple #[]) ∧ w' = wr) := Lib.hid (AnyG.slices_Sort_int_none Try.sortInts none 0 wr)
          clear hks hlen hfew hrow hrg hb hnil h0
          go_wp2_with fail
          refine HS.out.mono ?_
          rintro e w2 ⟨rfl, rfl⟩
          go_wp2
          go_ret
          exact HO.out
        · have hH : Holds (Value.int .i64) wr g 0 ks.toArray := holds_of_blockI hg (by simpa using h4)
          have hgl : g < wr.heap.size := (Array.getElem?_eq_some_iff.1 hg).1
          have HS : Hid (Calls Try.prog 91 #[.slice (some ⟨g, 0, none⟩) ks.length cap] wr fun e w' => e = .returned (.tuple #[]) ∧ IntsNew (heldL x.hs v) w (.returned (.slice (some ⟨g, 0, none⟩) ks.length cap)) w') := Lib.hid <|
            (AnyG.slices_Sort_int Try.sortInts g 0 cap ks wr hH hgl (by omega)).mono fun e w' hq => by
              obtain ⟨he, nn, os, rfl⟩ := hq
              refine ⟨he, ?_⟩
              rw [hks, ← hlen]
              refine IntsNew.of_own (ownsRow_less (base := w.heap.size + 1) ?_ (by omega)) (hb.grown (grownBy_sortedI _) hb.size (fun j hj => by cases hj; omega))
              rw [hlen]
              exact ownsRow_sortedI hlen hbase hg h1 h2 (by simpa using h3)
          clear hks hlen hfew hrow hrg hb hH hgl h1 h2 h3 h4 hg
          go_wp2_with fail
          refine HS.out.mono ?_
          rintro e w2 ⟨rfl, ho⟩
          have HO := Lib.hid ho
          clear ho HS
          go_wp2
          go_ret
          exact HO.out
      · intro j c w1 cnt1 hwx hwc hlx hat hrg1 hlt hg1 hs1 hen
        have hb1 : Below w.heap.size w w1 := hb.grown hg1 hb.size (fun j hj => by cases hj; exact Nat.le_refl _)
        have hsz := hb1.size
        have hrow1 := hrow.kept hg1 (.inr (by
          intro e
          have := hrow.lt _ e
          omega))
        have HC := Lib.hid ((HD.out j hwx).symm.trans (atO_at hat))
        have hr1 := hrg.lt
        have hr2 : w.heap.size < w1.heap.size := Nat.lt_of_lt_of_le hr1 hg1.size
        clear hs1 hg1 hat
        by_cases e : c = v
        · subst e
          have HM2 := Lib.hid (HM.out.yes HC.out hlx)
          have hfew := HM2.out.few HX.out
          have hfew2 : ks.length + 1 ≤ 4097 := by simpa using hfew
          obtain ⟨A, cp, rfl, hlc, hcm⟩ := ownSlice hrow1
          clear hfew
          go_wp2_with (at_builtin; refine wpList_append_own _ rfl _ _ 38 rfl (w.heap.size + 1) 3 i0 (.int .i64 0) 1 8 Try.underlying38 hi0 hz0 hz1 hz2 rfl (by decide) _ _ _ rfl (hrow1.alloc _) ⟨w1.heap.size, 0, none⟩ 1 1 [.int .i64 j] rfl rfl ?c1 ?c2 ?c3 ?c4 ?c5 ?_)
          case c1 =>
            intro i u hi
            match i, hi with
            | 0, hi => simp at hi; subst hi; simp [Addr.add]
          case c2 => intro u hu; simp at hu; subst hu; rfl
          case c3 => unfold maxLen; omega
          case c4 => omega
          case c5 => simp; omega
          intro v' w2 hown2 hgrow _
          have hB := ownBase (hrow1.alloc (.cells #[.int .i64 j] 3)) (hb1.alloc hsz _) (by omega) (by simp; omega) hgrow
          have hrg2 := (hrg1.alloc (.cells #[.int .i64 j] 3)).kept hgrow (fun e => by have := hrow1.lt _ e.symm; omega) (fun e => by have := hrow1.lt _ e.symm; omega)
          have hown3 : w2.ownsRow (w.heap.size + 1) 3 1 v' (ks ++ [j]).length ((ks ++ [j]).map (Value.int .i64)) := by simpa using hown2
          clear hgrow hown2
          go_wp2
          go_roundw
          case rel => exact ⟨_, cnt1, ks ++ [j], hrg2, hown3, hB, HM2.out⟩
          case measure => rw [hrg2.left_eq, hrg.left_eq]; exact hlt
        · have HM2 := Lib.hid (HM.out.no HC.out e)
          go_wp2
          go_roundw
          case rel => exact ⟨_, cnt1, ks, hrg1, hrow1, hb1, HM2.out⟩
          case measure => rw [hrg1.left_eq, hrg.left_eq]; exact hlt

end Go.Proofs.Ytdgmcaehadigaaa
