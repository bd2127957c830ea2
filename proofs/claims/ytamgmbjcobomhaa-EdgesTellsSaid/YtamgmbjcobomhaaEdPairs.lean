/- edges.Pairs by contract, and the document's SamePairs of lists that are one. -/
import Derived.Test.YtamgmbjcobomhaaEdLists
import Derived.Deep.RegionHeld3
import Derived.Deep.AppendLies
import Derived.Laws.StructEq
import Derived.BigQuiet
import Derived.Deep.QuietTactic
namespace Go.Proofs.Ytamgmbjcobomhaa
open Go.RowKit Go.Shelf

/-- Each number but the last, with the one behind it. -/
def pairsI (zs : List Int) : List (Int × Int) := zs.zip zs.tail
def encP (x : Int × Int) : List Value := [.int .i64 x.1, .int .i64 x.2]
def cellsP (xs : List (Int × Int)) : List Value := xs.flatMap encP
theorem cellsP_snoc (xs : List (Int × Int)) (x : Int × Int) : cellsP (xs ++ [x]) = cellsP xs ++ encP x := by simp [cellsP]
theorem cellsP_len (xs : List (Int × Int)) : (cellsP xs).length = xs.length * 2 := by
  unfold cellsP
  induction xs with
  | nil => rfl
  | cons z r ih => rw [List.flatMap_cons, List.length_append, ih]; show 2 + _ = _; rw [List.length_cons]; omega
theorem cellsP_get : ∀ (zs : List (Int × Int)) (k c : Nat) (h : k < zs.length), c < 2 → (cellsP zs)[k * 2 + c]? = some ((encP zs[k])[c]!)
  | z :: r, 0, c, _, hc => by
    have e : cellsP (z :: r) = encP z ++ cellsP r := rfl
    rw [e, List.getElem?_append_left (by show 0 * 2 + c < 2; omega)]
    match c, hc with
    | 0, _ => rfl
    | 1, _ => rfl
  | z :: r, k + 1, c, h, hc => by
    have e : cellsP (z :: r) = encP z ++ cellsP r := rfl
    have hl : (encP z).length = 2 := rfl
    rw [e, List.getElem?_append_right (by rw [hl]; omega), hl, show (k + 1) * 2 + c - 2 = k * 2 + c by omega]
    exact cellsP_get r k c (by simpa using h) hc

/-- The slice that begins at A reads, in w, as these pairs, in blocks below B. -/
def RdP (w : World) (B : Nat) (A : Option Addr) (zs : List (Int × Int)) : Prop :=
  ∀ k z, zs[k]? = some z → ∃ b off, A = some ⟨b, off, none⟩ ∧ b < B ∧ w.cell? ⟨b, off + k * 2, none⟩ = some (.int .i64 z.1) ∧ w.cell? ⟨b, off + k * 2 + 1, none⟩ = some (.int .i64 z.2)
section
variable {w w' : World} {B B' : Nat} {A : Option Addr} {zs : List (Int × Int)}
theorem RdP.nil : RdP w B A [] := fun k z h => by simp at h
theorem RdP.below (h : RdP w B A zs) (hb : Below B w w') : RdP w' B A zs := fun k z hz => by
  obtain ⟨b, off, hA, hlt, h0, h1⟩ := h k z hz
  exact ⟨b, off, hA, hlt, (hb.cell (p := ⟨b, off + k * 2, none⟩) hlt).trans h0, (hb.cell (p := ⟨b, off + k * 2 + 1, none⟩) hlt).trans h1⟩
theorem RdP.more (h : RdP w B A zs) (hB : B ≤ B') : RdP w B' A zs := fun k z hz => by
  obtain ⟨b, off, hA, hlt, hc⟩ := h k z hz
  exact ⟨b, off, hA, by omega, hc⟩
theorem RdP.of_own {base c : Nat} (h : w.ownsRow base 97 2 (.slice A zs.length c) zs.length (cellsP zs)) : RdP w w.heap.size A zs := by
  intro k z hz
  obtain ⟨hk, rfl⟩ := List.getElem?_eq_some_iff.1 hz
  obtain ⟨g, rfl, hg, hgw⟩ := ownPos h (by omega)
  refine ⟨g, 0, rfl, hgw, ?_, ?_⟩
  · have := cellsP_get zs k 0 hk (by decide)
    rw [Nat.zero_add, show k * 2 = k * 2 + 0 from rfl, h.cellAt _ (by omega), this]
    rfl
  · have := cellsP_get zs k 1 hk (by decide)
    rw [Nat.zero_add, h.cellAt _ (by omega), this]
    rfl
end

/-- Pairs that a call leaves, in memory of its own. -/
def PairsOut (L : List (Int × Int)) (w : World) (e : Ending) (w' : World) : Prop :=
  ∃ A c, e = .returned (.slice A L.length c) ∧ RdP w' w'.heap.size A L ∧ Below w.heap.size w w'

theorem info_pair : (Try.prog.info? 97).map (fun i => (i.zero, i.size, i.bytes)) = some (some (.agg #[.int .i64 0, .int .i64 0]), 2, 16) := by kernel_rfl

/-- The pairs of the first k + 1 numbers. -/
theorem pairs_snoc (zs : List Int) (k : Nat) (h : k + 1 < zs.length) : (pairsI zs).take (k + 1) = (pairsI zs).take k ++ [(zs[k], zs[k + 1])] := by
  have hl : k < (pairsI zs).length := by unfold pairsI; simp; omega
  rw [List.take_succ_eq_append_getElem hl]
  congr 1
  simp [pairsI]
theorem pairs_len (zs : List Int) : (pairsI zs).length = zs.length - 1 := by unfold pairsI; simp

theorem below_drew {X Y : World} {B : Nat} (h : Below B X Y) : Below B X Y.drew := h.trans (below_draws _ 1 _)

set_option maxRecDepth 100000 in
set_option maxHeartbeats 4000000 in
theorem Pairs_any (A : Option Addr) (zs : List Int) (c : Nat) (w : World) (hA : Rd (Value.int .i64) w w.heap.size A zs) (hl : zs.length ≤ 100000) :
    Calls Try.prog 54 #[.slice A zs.length c] w (PairsOut (pairsI zs) w) := by
  obtain ⟨i0, hi0, hz0, hz1, hz2⟩ := info_parts info_pair
  have h0 : (w.alloc (.cells #[] 97)).ownsRow w.heap.size 97 2 (.slice (some ⟨w.heap.size, 0, none⟩) 0 0) 0 [] := World.ownsRow_made w #[] 0 (Nat.le_refl _) (Nat.zero_le _) rfl
  go_enter Try.func54, Try.ntmps54
  go_wp2
  go_loopw [3, 4] (fun v i wr => ∃ (k : Nat) (L : List (Int × Int)), k ≤ zs.length ∧ i = .int .i64 (k + 1 : Nat) ∧ wr.ownsRow w.heap.size 97 2 v L.length (cellsP L) ∧ Hid (L = (pairsI zs).take k) ∧ Below w.heap.size w wr) (fun _ i _ => zs.length + 1 - (intOf i).toNat)
  case atStart => exact ⟨0, [], Nat.zero_le _, rfl, h0, rfl, (Below.refl _ _).alloc (Nat.le_refl _) _⟩
  case round =>
    clear h0
    obtain ⟨k, L, hk, rfl, hown, HL, hbel⟩ := hrel
    have hsz : w.heap.size ≤ wr.heap.size := hbel.size
    by_cases hlt : k + 1 < zs.length
    · obtain ⟨b, off, rfl, hb, h0⟩ := hA.below hbel k _ (List.getElem?_eq_getElem (by omega : k < zs.length))
      obtain ⟨b', off', he, hb', h1⟩ := hA.below hbel (k + 1) _ (List.getElem?_eq_getElem hlt)
      injection he with he
      injection he with e1 e2
      subst e1 e2
      have HT := Lib.hid (pairs_snoc zs k hlt)
      have HLL : L.length ≤ zs.length := by rw [HL.out, List.length_take, pairs_len]; omega
      generalize zs[k + 1] = y at *
      generalize zs[k]'(by omega) = x at *
      have hkl : ((k + 1 : Nat) : Int) < (zs.length : Int) := by omega
      have hkl0 : (k : Int) < (zs.length : Int) := by omega
      have hk0 : (0 : Int) ≤ (k : Int) := by omega
      have hk1 : (0 : Int) ≤ ((k + 1 : Nat) : Int) := by omega
      have e1 : IntKind.i64.wrap (((k + 1 : Nat) : Int) - 1) = (k : Int) := by
        rw [IntWalk.i64_in _ (by omega)]
        omega
      have e1b : IntKind.i64.wrap (k : Int) = (k : Int) := IntWalk.i64_in _ (by omega)
      have e2 : ((k : Int)).toNat = k := Int.toNat_natCast k
      have e3 : (((k + 1 : Nat) : Int)).toNat = k + 1 := Int.toNat_natCast _
      have hklb : (k : Int) + 1 < (zs.length : Int) := by omega
      have hk1b : (0 : Int) ≤ (k : Int) + 1 := by omega
      have e3b : ((k : Int) + 1).toNat = k + 1 := by omega
      go_wp2
      have ak : u3.ownBlock ≠ some b := by
        rcases hown.2 with ⟨hv, _⟩ | ⟨g', cap, cur, hv, hg, _⟩
        · rw [hv]; simp [Value.ownBlock]
        · rw [hv]; simp [Value.ownBlock]; omega
      have hm1 : L.length + 1 ≤ maxLen := by unfold maxLen; omega
      have hm2 : (L.length + 1) * 16 ≤ 140737488355328 := by omega
      go_region_held3 (fun W => W.cell? ⟨b, off + k, none⟩ = some (.int .i64 x) ∧ W.cell? ⟨b, off + (k + 1), none⟩ = some (.int .i64 y))
        (first
          | go_keep
          | (go_split_ands
             refine ⟨?_, ?_⟩
             · (rw [hgrow.cell_far _ (by simp; omega) (Ne.symm ak)]; assumption)
             · (rw [hgrow.cell_far _ (by simp; omega) (Ne.symm ak)]; assumption)))
        ((refine step_append_lies _ (by rfl) _ _ _ (by rfl) w.heap.size 97 i0 _ 2 16 Try.underlying70 hi0 hz0 hz1 hz2 rfl (by omega) u3 L.length (cellsP L) (by rfl) ((hown.alloc _).drew)
            ⟨wr.heap.size, 0, none⟩ 1 1 [.int .i64 x, .int .i64 y] (by rfl) (by rfl) (World.news_of_block (cs := #[.int .i64 x, .int .i64 y]) (t := 97) (fr := (0, 0)) (heap_alloc_new wr _)) (by simp [Value.oneCell'])
            (by omega) hm1 hm2 (by simp; omega) (wr.heap.size + 1) (by simp) ?_; intro gg cap w2 hown2 hgrow hat hlt2))
      have hB2 := ownBase (hown.alloc _).drew (below_drew (hbel.alloc hsz _)) (Nat.le_refl _) (by simp; omega) hgrow
      have hown3 : w2.ownsRow w.heap.size 97 2 (.slice (some ⟨gg, 0, none⟩) (L.length + 1) cap) (L ++ [(x, y)]).length (cellsP (L ++ [(x, y)])) := by
        rw [cellsP_snoc, List.length_append]; exact hown2
      clear hgrow hown hown2 e1 e1b e2 e3 e3b
      go_wp2
      go_roundw
      case rel => exact ⟨k + 1, L ++ [(x, y)], by omega, by go_num, hown3, by rw [Hid, HT.out, ← HL.out], hB2⟩
      case measure => simp [intOf]; omega
    · have HE : Hid (L = pairsI zs) := by
        rw [Hid, HL.out, List.take_of_length_le (by rw [pairs_len]; omega)]
      go_wp2
      go_ret
      rw [← HE.out]
      obtain ⟨A2, c2, rfl, _, _⟩ := ownSlice hown
      exact ⟨A2, c2, rfl, RdP.of_own hown, hbel⟩

theorem eq_pair (d : Nat) (x y a b : Int) (w : World) : (Op.equalIn (d + 1 + 1) 97 (.agg #[.int .i64 x, .int .i64 y]) (.agg #[.int .i64 a, .int .i64 b])).run Try.prog w = .ok (x == a && y == b) w := by
  have hu := Try.underlying97
  have hz := Try.sizeOf3
  have hq := fun (p q : Int) (w : World) => run_equalIn_int (P := Try.prog) w d 3 .i64 .i64 p q Try.underlying3
  generalize hE : Op.equalIn (d + 1) = E at hq
  rw [Op.equalIn, hE]
  simp only [Sem.run_bind, run_underlying hu, Result.andThen_ok]
  rw [hz]
  simp only [Result.andThen_ok, Std.Legacy.Range.forIn_eq_forIn_range', Std.Legacy.Range.size]
  have e1 : (x == a) = true ∨ (x == a) = false := by cases x == a <;> simp
  rcases e1 with e1 | e1
  · simp [List.range', go_sem, hq, e1]
    by_cases h : y = b <;> simp [h]
  · simp [List.range', go_sem, hq, e1]

set_option maxHeartbeats 2000000 in
theorem SamePairs_refl (A B : Option Addr) (zs : List (Int × Int)) (c d : Nat) (w : World) {Bk : Nat} (hA : RdP w Bk A zs) (hB : RdP w Bk B zs) (hl : zs.length ≤ 9223372036854775807) :
    Calls Try.prog 53 #[.slice A zs.length c, .slice B zs.length d] w fun e w' => e = .returned (.bool true) ∧ Drawn w w' := by
  go_enter Try.func53, Try.ntmps53
  go_wp2
  go_loopw [13] (fun i wr => ∃ k : Nat, k ≤ zs.length ∧ i = .int .i64 k ∧ Drawn w wr) (fun i _ => zs.length - (intOf i).toNat)
  case atStart => exact ⟨0, Nat.zero_le _, rfl, Drawn.refl⟩
  case round =>
    obtain ⟨k, hk, rfl, hdr⟩ := hrel
    by_cases hlt : k < zs.length
    · obtain ⟨b, off, rfl, hb, h0, h1⟩ := hA k _ (List.getElem?_eq_getElem hlt)
      obtain ⟨b', off', rfl, hb', k0, k1⟩ := hB k _ (List.getElem?_eq_getElem hlt)
      rw [← hdr.cell] at h0 h1 k0 k1
      generalize zs[k] = z at *
      obtain ⟨x, y⟩ := z
      simp only at h0 h1 k0 k1
      have hq : ∀ w, (Op.equalIn 10000 97 (.agg #[.int .i64 x, .int .i64 y]) (.agg #[.int .i64 x, .int .i64 y])).run Try.prog w = .ok true w := fun w => by
        rw [eq_pair 9998 x y x y w]; simp
      have hkl : (k : Int) < (zs.length : Int) := by omega
      have hk0 : (0 : Int) ≤ (k : Int) := by omega
      go_wp2
      go_quiet (fail)
      go_wp2
      go_roundw
      case rel => exact ⟨k + 1, by omega, by go_num, hdr.step _⟩
      case measure => simp [intOf]; omega
    · go_wp2
      go_ret
      exact ⟨rfl, hdr⟩

end Go.Proofs.Ytamgmbjcobomhaa
