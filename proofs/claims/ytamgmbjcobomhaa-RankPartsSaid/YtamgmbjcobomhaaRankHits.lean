/- Hits in memory; slices.Grow, slices.Concat of two lists of hits. -/
import Derived.Test.YtamgmbjcobomhaaRankSort
import Derived.Test.YtamgmbjcobomhaaShelf2
import Derived.Laws.AppendOwnNone
import Derived.Lib.SlicesCompact
namespace Go.Proofs.Ytamgmbjcobomhaa
open Go.RowKit Go.Shelf Go.Sort

/-- The slice that begins at A reads, in w, as these hits, in blocks below B. -/
def RdH (w : World) (B : Nat) (A : Option Addr) (zs : List HitT) : Prop :=
  ∀ k z, zs[k]? = some z → ∃ b off, A = some ⟨b, off, none⟩ ∧ b < B ∧ w.cell? ⟨b, off + k * 2, none⟩ = some (.int .u64 z.1) ∧ w.cell? ⟨b, off + k * 2 + 1, none⟩ = some (.int .u64 z.2)
section
variable {w w' : World} {B B' : Nat} {A : Option Addr} {zs : List HitT}
theorem RdH.nil : RdH w B A [] := fun k z h => by simp at h
theorem RdH.below (h : RdH w B A zs) (hb : Below B w w') : RdH w' B A zs := fun k z hz => by
  obtain ⟨b, off, hA, hlt, h0, h1⟩ := h k z hz
  exact ⟨b, off, hA, hlt, (hb.cell (p := ⟨b, off + k * 2, none⟩) hlt).trans h0, (hb.cell (p := ⟨b, off + k * 2 + 1, none⟩) hlt).trans h1⟩
theorem RdH.more (h : RdH w B A zs) (hB : B ≤ B') : RdH w B' A zs := fun k z hz => by
  obtain ⟨b, off, hA, hlt, hc⟩ := h k z hz
  exact ⟨b, off, hA, by omega, hc⟩
end

/-- The cells of hits, one behind the other. -/
def cellsH (zs : List HitT) : List Value := zs.flatMap encH
theorem cellsH_app (xs ys : List HitT) : cellsH (xs ++ ys) = cellsH xs ++ cellsH ys := by simp [cellsH]
theorem cellsH_len (zs : List HitT) : (cellsH zs).length = zs.length * 2 := by
  unfold cellsH
  induction zs with
  | nil => rfl
  | cons z r ih => rw [List.flatMap_cons, List.length_append, ih]; show 2 + _ = _; rw [List.length_cons]; omega
theorem cellsH_get : ∀ (zs : List HitT) (k c : Nat) (h : k < zs.length), c < 2 → (cellsH zs)[k * 2 + c]? = some ((encH zs[k])[c]!)
  | z :: r, 0, c, _, hc => by
    have e : cellsH (z :: r) = encH z ++ cellsH r := rfl
    rw [e, List.getElem?_append_left (by show 0 * 2 + c < 2; omega)]
    match c, hc with
    | 0, _ => rfl
    | 1, _ => rfl
  | z :: r, k + 1, c, h, hc => by
    have e : cellsH (z :: r) = encH z ++ cellsH r := rfl
    have hl : (encH z).length = 2 := rfl
    rw [e, List.getElem?_append_right (by rw [hl]; omega), hl, show (k + 1) * 2 + c - 2 = k * 2 + c by omega]
    exact cellsH_get r k c (by simpa using h) hc
theorem cellsH_one {zs : List HitT} : ∀ u ∈ cellsH zs, u.oneCell' = true := by
  intro u hu
  unfold cellsH at hu
  obtain ⟨z, _, hz⟩ := List.mem_flatMap.1 hu
  simp [encH] at hz
  rcases hz with rfl | rfl <;> rfl
/-- Hits that are read, cell by cell. -/
theorem RdH.cells {w : World} {B b off : Nat} {zs : List HitT} (h : RdH w B (some ⟨b, off, none⟩) zs) : ∀ j u, (cellsH zs)[j]? = some u → w.cell? (Addr.add ⟨b, off, none⟩ j) = some u := by
  intro j u hj
  have hlt := (List.getElem?_eq_some_iff.1 hj).1
  rw [cellsH_len] at hlt
  have hk : j / 2 < zs.length := by omega
  have hx := cellsH_get zs (j / 2) (j % 2) hk (by omega)
  rw [show j / 2 * 2 + j % 2 = j by omega, hj] at hx
  injection hx with hx
  obtain ⟨b', off', he, _, h0, h1⟩ := h (j / 2) _ (List.getElem?_eq_getElem hk)
  injection he with he
  injection he with e1 e2
  subst e1 e2
  rw [show Addr.add ⟨b, off, none⟩ j = ⟨b, off + j, none⟩ from by simp [Addr.add]]
  rcases (show j % 2 = 0 ∨ j % 2 = 1 by omega) with e | e
  · rw [e] at hx
    rw [show off + j = off + j / 2 * 2 by omega, h0, hx]; rfl
  · rw [e] at hx
    rw [show off + j = off + j / 2 * 2 + 1 by omega, h1, hx]; rfl

theorem RdH.news {w : World} {B : Nat} {ad : Addr} {zs : List HitT} (h : RdH w B (some ad) zs) : ∀ j u, (cellsH zs)[j]? = some u → w.cell? (ad.add j) = some u := by
  cases zs with
  | nil => intro j u hj; simp [cellsH] at hj
  | cons z r =>
    obtain ⟨b, off, he, _⟩ := h 0 z rfl
    injection he with he
    subst he
    exact h.cells
theorem RdH.none_nil {w : World} {B : Nat} {zs : List HitT} (h : RdH w B none zs) : zs = [] := by
  cases zs with
  | nil => rfl
  | cons z r =>
    obtain ⟨_, _, he, _⟩ := h 0 z rfl
    cases he

theorem info_hit : (Try.prog.info? 34).map (fun i => (i.zero, i.size, i.bytes)) = some (some (.agg #[.int .u64 0, .int .u64 0]), 2, 16) := by kernel_rfl

set_option maxHeartbeats 1000000 in
/-- slices.Grow of nothing: an empty slice, in memory of the call's own. -/
theorem Grow_any (n : Nat) (w : World) (hn : n ≤ 1000000000000) :
    Calls Try.prog 91 #[.slice none 0 0, .int .i64 n] w fun e w' => (∃ v, e = .returned v ∧ w'.ownsRow w.heap.size 34 2 v 0 []) ∧ Below w.heap.size w w' := by
  obtain ⟨i0, hi0, hz0, hz1, hz2⟩ := info_parts info_hit
  by_cases h0 : n = 0
  · subst h0
    exact (Any8.slices_Grow_room Try.growHit none 0 0 0 w (Nat.le_refl _) (by omega) (by omega) (Nat.le_refl _)).mono fun e w' ⟨he, hw⟩ => ⟨⟨_, he, World.ownsRow_nil _ _ _ _⟩, hw ▸ Below.refl _ _⟩
  · refine (Any8.slices_Grow_grow Try.growHit i0 _ hi0 hz0 (by rw [hz1]; decide) none 0 0 n [] w (Nat.le_refl _) (by omega) (by rw [hz2]; omega) (by omega) (by simp) (fun _ => rfl) (fun a h => by cases h)).mono fun e w' ⟨he, hw⟩ => ?_
    have ht : Try.growHit_ren.t 25 = 34 := rfl
    rw [ht] at he hw
    subst hw
    have hg1 := grownCap_ge w (0 + n) 0 34
    have hg2 := grownCap_le_maxLen w (0 + n) 0 34 (by unfold maxLen; omega)
    generalize grownCap w (0 + n) 0 34 = G at *
    refine ⟨⟨_, he, by simp, .inr ⟨w.heap.size, G, _, rfl, Nat.le_refl _, World.alloc_heap_new w.drew _, Nat.zero_le _, hg2, ?_, by simp⟩⟩, ?_⟩
    · simp [Builtin.zeroCells, Value.cells]
      omega
    · exact (Below.refl _ w).drew.alloc (Nat.le_refl _) _

set_option maxRecDepth 100000 in
set_option maxHeartbeats 4000000 in
theorem Concat_any (A B : Option Addr) (xs ys : List HitT) (ca cb : Nat) (H : Nat) (w : World) (hA : RdH w w.heap.size A xs) (hB : RdH w w.heap.size B ys) (hx : xs.length ≤ 100000) (hy : ys.length ≤ 100000)
    (hcA : A = none → ca = 0) (hcB : B = none → cb = 0) (hH : H < w.heap.size) (h0 : w.cell? ⟨H, 0, none⟩ = some (.slice A xs.length ca)) (h1 : w.cell? ⟨H, 1, none⟩ = some (.slice B ys.length cb)) :
    Calls Try.prog 66 #[.slice (some ⟨H, 0, none⟩) 2 2] w fun e w' => (∃ v, e = .returned v ∧ w'.ownsRow w.heap.size 34 2 v (xs.length + ys.length) (cellsH (xs ++ ys))) ∧ Below w.heap.size w w' := by
  obtain ⟨i0, hi0, hz0, hz1, hz2⟩ := info_parts info_hit
  go_enter Try.func66, Try.ntmps66
  go_wp2
  go_loop [3, 11] (fun s i => ∃ k t : Nat, k ≤ 2 ∧ i = .int .i64 k ∧ s = .int .i64 t ∧ t = (if k = 0 then 0 else if k = 1 then xs.length else xs.length + ys.length)) (fun _ i => 2 - (intOf i).toNat)
  case atStart => exact ⟨0, 0, by omega, rfl, rfl, rfl⟩
  case round =>
    obtain ⟨k, t, hk, rfl, rfl, ht⟩ := hrel
    rcases (show k = 0 ∨ k = 1 ∨ k = 2 by omega) with rfl | rfl | rfl
    · simp only [if_true] at ht
      subst ht
      go_wp2
      go_round
      case rel => exact ⟨1, xs.length, by omega, by go_num, by go_num, rfl⟩
      case measure => simp [intOf]
    · obtain rfl : t = xs.length := ht
      go_wp2
      go_round
      case rel => exact ⟨2, xs.length + ys.length, by omega, by go_num, by go_num, rfl⟩
      case measure => simp [intOf]
    · obtain rfl : t = xs.length + ys.length := ht
      go_wp2_with fail
      refine (Grow_any (xs.length + ys.length) _ (by omega)).mono ?_
      rintro e w1 ⟨⟨v, rfl, hown⟩, hb⟩
      have g0 := (hb.cell (p := ⟨H, 0, none⟩) hH).trans h0
      have g1 := (hb.cell (p := ⟨H, 1, none⟩) hH).trans h1
      have qA := hA.below hb
      have qB := hB.below hb
      go_wp2
      go_loopw [6, 27] (fun v i wr => ∃ (k : Nat) (L : List HitT), k ≤ 2 ∧ i = .int .i64 k ∧ wr.ownsRow w.heap.size 34 2 v L.length (cellsH L) ∧ Below w.heap.size w1 wr ∧ Hid (L = (if k = 0 then [] else if k = 1 then xs else xs ++ ys))) (fun _ i _ => 2 - (intOf i).toNat)
      case atStart => exact ⟨0, [], by omega, rfl, hown, Below.refl _ _, rfl⟩
      case round =>
        clear hown
        obtain ⟨k, L, hk, rfl, hown, hbel, HL⟩ := hrel
        have hsz : w.heap.size ≤ wr.heap.size := Nat.le_trans hb.size hbel.size
        have f0 := (hbel.cell (p := ⟨H, 0, none⟩) hH).trans g0
        have f1 := (hbel.cell (p := ⟨H, 1, none⟩) hH).trans g1
        clear h0 h1 g0 g1
        rcases (show k = 0 ∨ k = 1 ∨ k = 2 by omega) with rfl | rfl | rfl
        · obtain rfl : L = [] := HL.out
          have q := qA.below hbel
          cases A with
          | none =>
            have hn := q.none_nil
            have hf : wr.cell? ⟨H, 0, none⟩ = some (.slice none 0 0) := by rw [f0, hn, hcA rfl]; rfl
            have HN := Lib.hid hn
            clear HL f0 q hn hcA
            go_wp2_with (at_builtin; refine wpList_append_own_none rfl _ _ 23 rfl w.heap.size 34 i0 2 Try.underlying23 hi0 _ _ _ rfl hown rfl ?_)
            go_roundw
            case rel => exact ⟨1, [], by omega, by go_num, hown, hbel, by rw [Hid, HN.out]; simp⟩
            case measure => simp [intOf]
          | some ad =>
            clear HL
            go_wp2_with (at_builtin; refine wpList_append_own _ rfl _ _ 23 rfl w.heap.size 34 i0 (.agg #[.int .u64 0, .int .u64 0]) 2 16 Try.underlying23 hi0 hz0 hz1 hz2 rfl (by decide) _ _ _ rfl hown ad xs.length ca (cellsH xs) rfl (cellsH_len xs) q.news cellsH_one (by unfold maxLen; simp only [List.length_nil]; omega) (by simp only [List.length_nil]; omega) hsz ?_)
            intro v' w2 hown2 hgrow _
            have hB2 := ownBase hown hbel (Nat.le_refl _) hsz hgrow
            have hown3 : w2.ownsRow w.heap.size 34 2 v' (xs).length (cellsH (xs)) := by
              simpa [cellsH] using hown2
            clear hgrow hown hown2
            go_wp2
            go_roundw
            case rel => exact ⟨1, xs, by omega, by go_num, hown3, hB2, rfl⟩
            case measure => simp [intOf]
        · have hL : xs = L := HL.out.symm
          subst hL
          have q := qB.below hbel
          cases B with
          | none =>
            have hn := q.none_nil
            have hf : wr.cell? ⟨H, 1, none⟩ = some (.slice none 0 0) := by rw [f1, hn, hcB rfl]; rfl
            have HN := Lib.hid hn
            clear HL f1 q hn hcB
            go_wp2_with (at_builtin; refine wpList_append_own_none rfl _ _ 23 rfl w.heap.size 34 i0 2 Try.underlying23 hi0 _ _ _ rfl hown rfl ?_)
            go_roundw
            case rel => exact ⟨2, xs, by omega, by go_num, hown, hbel, by rw [Hid, HN.out]; simp⟩
            case measure => simp [intOf]
          | some ad =>
            clear HL
            go_wp2_with (at_builtin; refine wpList_append_own _ rfl _ _ 23 rfl w.heap.size 34 i0 (.agg #[.int .u64 0, .int .u64 0]) 2 16 Try.underlying23 hi0 hz0 hz1 hz2 rfl (by decide) _ _ _ rfl hown ad ys.length cb (cellsH ys) rfl (cellsH_len ys) q.news cellsH_one (by unfold maxLen; omega) (by omega) hsz ?_)
            intro v' w2 hown2 hgrow _
            have hB2 := ownBase hown hbel (Nat.le_refl _) hsz hgrow
            have hown3 : w2.ownsRow w.heap.size 34 2 v' (xs ++ ys).length (cellsH (xs ++ ys)) := by
              rw [cellsH_app, List.length_append]; exact hown2
            clear hgrow hown hown2
            go_wp2
            go_roundw
            case rel => exact ⟨2, xs ++ ys, by omega, by go_num, hown3, hB2, rfl⟩
            case measure => simp [intOf]
        · obtain rfl : L = xs ++ ys := HL.out
          go_wp2
          go_ret
          rw [List.length_append] at hown
          exact ⟨⟨_, rfl, hown⟩, hb.trans hbel⟩

end Go.Proofs.Ytamgmbjcobomhaa
