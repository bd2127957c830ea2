/- The contracts of vec.Dist and vec.Dot. -/
import Derived.Test.YtajmnhnepoomjaaVecIter
import Derived.Laws.Externs
namespace Go.Proofs.Ytajmnhnepoomjaa
open Go.RowKit Go.Shelf
attribute [local go_sem] Oper.semAt_some wide_fn wide_depth

theorem add64_run (x y : Nat) (w : World) :
    (callFunc 69 #[.int .u64 x, .int .u64 y, .int .u64 0]).run Try.prog w =
      .ok (.value (.tuple #[.int .u64 (((x + y) % 18446744073709551616 : Nat) : Int), .int .u64 (((x + y) / 18446744073709551616 : Nat) : Int)])) w := by
  rw [run_callFunc_extern Try.func69 (by kernel_rfl) (by kernel_rfl) (by kernel_rfl) (e := add64Entry) (by kernel_rfl), run_add64 x y 0 (by omega) (by omega) (by omega) (by omega)]
  simp only [Result.andThen]
  congr 5 <;> omega
theorem add64_small (x y : Nat) (h : x + y < 18446744073709551616) (w : World) :
    (callFunc 69 #[.int .u64 x, .int .u64 y, .int .u64 0]).run Try.prog w = .ok (.value (.tuple #[.int .u64 ((x + y : Nat) : Int), .int .u64 0])) w := by
  rw [add64_run, Nat.mod_eq_of_lt h, Nat.div_eq_of_lt h]; rfl
theorem add64_big (x y : Nat) (h : 18446744073709551616 ≤ x + y) (hx : x < 18446744073709551616) (hy : y < 18446744073709551616) : ∃ z : Int, ∀ w : World,
    (callFunc 69 #[.int .u64 x, .int .u64 y, .int .u64 0]).run Try.prog w = .ok (.value (.tuple #[.int .u64 z, .int .u64 1])) w := by
  refine ⟨((x + y) % 18446744073709551616 : Nat), fun w => ?_⟩
  rw [add64_run, show (x + y) / 18446744073709551616 = 1 from by omega]
  rfl

/-- What the places so far have come to. -/
def sumP {n : Nat} (xs ys : List Int) (pre : List (Pl n)) : Nat := (pre.map fun x => sqZ (cpt xs x.1) (cpt ys x.1)).sum
theorem sumP_snoc {n : Nat} (xs ys : List Int) (pre : List (Pl n)) (x : Pl n) : sumP xs ys (pre ++ [x]) = sumP xs ys pre + sqZ (cpt xs x.1) (cpt ys x.1) := by
  simp [sumP]
theorem sumP_upTo {n k : Nat} (xs ys : List Int) (pre : List (Pl n)) (h : UpTo k pre) : sumP xs ys pre = distN xs ys k := by
  have e : sumP xs ys pre = ((pre.map (·.1)).map fun j => sqZ (cpt xs j) (cpt ys j)).sum := by rw [sumP, List.map_map]; rfl
  rw [e, h]
  clear e h
  induction k with
  | zero => rfl
  | succ k ih => rw [List.range_succ, List.map_append, List.sum_append, ih, distN]; simp
theorem sq_room {a b : Int} (ha : -2147483648 ≤ a ∧ a ≤ 2147483647) (hb : -2147483648 ≤ b ∧ b ≤ 2147483647) : sqZ a b < 18446744073709551616 := by
  have := sqZ_le (x := a) (y := b) (m := 4294967295) (by omega) (by omega)
  omega
theorem sq_wrap {a b : Int} (ha : -2147483648 ≤ a ∧ a ≤ 2147483647) (hb : -2147483648 ≤ b ∧ b ≤ 2147483647) : IntKind.u64.wrap (wrap64 ((a - b) * (a - b))) = (sqZ a b : Int) := by
  have h := sq_room ha hb
  have e := sqZ_int a b
  generalize (a - b) * (a - b) = p at *
  generalize sqZ a b = q at *
  subst e
  simp only [IntKind.wrap_u64, wrap64]
  omega

theorem setOther {W : World} {b c : Nat} (hne : b ≠ c) (v : Value) : (W.setCell ⟨b, 0, none⟩ v).cell? ⟨c, 0, none⟩ = W.cell? ⟨c, 0, none⟩ :=
  World.cell?_setCell_other _ _ _ _ (fun h => hne (by cases h; rfl))

/-- Between two rounds of Dist. -/
def DistI {n : Nat} (xs ys : List Int) (w : World) (pre : List (Pl n)) (W : World) : Prop :=
  (Hid (sumP xs ys pre < 18446744073709551616) ∧ W.cell? ⟨w.heap.size + 1, 0, none⟩ = some (.int .u64 (sumP xs ys pre)) ∧ W.frozen? ⟨w.heap.size + 1, 0, none⟩ = false ∧
    W.cell? ⟨w.heap.size, 0, none⟩ = some (.int .u64 0) ∧ W.frozen? ⟨w.heap.size, 0, none⟩ = false) ∧ Below w.heap.size w W
def DistX {n : Nat} (xs ys : List Int) (w : World) (c : Code) (pre : List (Pl n)) (W : World) : Prop :=
  (c = .ret ∧ Hid (18446744073709551616 ≤ sumP xs ys pre) ∧ W.cell? ⟨w.heap.size, 0, none⟩ = some (.int .u64 18446744073709551615)) ∧ Below w.heap.size w W

set_option maxRecDepth 100000 in
set_option maxHeartbeats 2000000 in
theorem Dist_any (A B : Option Addr) (xs ys : List Int) (ca cb : Nat) (w : World) (hA : Rd (Value.int .i32) w w.heap.size A xs) (hB : Rd (Value.int .i32) w w.heap.size B ys) (hx : xs.length ≤ 9223372036854775807) (hy : ys.length ≤ 9223372036854775807)
    (hxs : Hid (∀ z ∈ xs, -2147483648 ≤ z ∧ z ≤ 2147483647)) (hys : Hid (∀ z ∈ ys, -2147483648 ≤ z ∧ z ≤ 2147483647)) :
    Calls Try.prog 21 #[.slice A xs.length ca, .slice B ys.length cb] w fun e w' => e = .returned (.int .u64 (satN (distN xs ys (max xs.length ys.length)))) ∧ Below w.heap.size w w' := by
  refine (callsIn_wide (n := 3)).1 ?_
  refine callsIn_of_wp_marks Try.func21 rfl trivial ?_ rfl
  simp only [Try.ntmps21, List.size_toArray, List.length_cons, List.length_nil, Nat.reduceAdd, Nat.reduceSub, Array.replicate_succ, Array.replicate_zero, List.push_toArray, List.append_toArray, List.nil_append, List.cons_append]
  gi_wp2_with (gi_at_call 68; refine CallsIn.mono (callsIn_wide.2 (pairs_any _ _ _ _ _ _ _)) ?_; rintro e w' ⟨rfl, rfl⟩)
  have b0 := Boxed.new w 24 (.int .u64 0)
  have b1 := Boxed.new (w.alloc (.cells #[.int .u64 0] 24)) 24 (.int .u64 0)
  have b2 := Boxed.new ((w.alloc (.cells #[.int .u64 0] 24)).alloc (.cells #[.int .u64 0] 24)) 23 (.slice A xs.length ca)
  have b3 := Boxed.new (((w.alloc (.cells #[.int .u64 0] 24)).alloc (.cells #[.int .u64 0] 24)).alloc (.cells #[.slice A xs.length ca] 23)) 23 (.slice B ys.length cb)
  have hB0 : Below w.heap.size w ((((w.alloc (.cells #[.int .u64 0] 24)).alloc (.cells #[.int .u64 0] 24)).alloc (.cells #[.slice A xs.length ca] 23)).alloc (.cells #[.slice B ys.length cb] 23)) :=
    ((((Below.refl _ w).alloc (Nat.le_refl _) _).alloc (by simp) _).alloc (by simp; omega) _).alloc (by simp; omega) _
  simp only [World.size_alloc] at b1 b2 b3
  refine wpIn_rangeFunc_ownG rfl (by decide) (gf := 113) (lb := #[.pointer (some ⟨w.heap.size + 1 + 1, 0, none⟩), .pointer (some ⟨w.heap.size + 1 + 1 + 1, 0, none⟩)]) rfl trivial (enters_of Try.func113 (by kernel_rfl) rfl)
    (pairs_stops (3 - 1) (max xs.length ys.length) w.heap.size (w.heap.size + 1 + 1) (w.heap.size + 1 + 1 + 1) A B xs ys ca cb rfl hx hy hxs hys _ (by simp; omega) (by simp) (by simp) (hA.below hB0) (hB.below hB0) (b2.alloc _).cell b3.cell)
    kpP_t (kpP_b (by simp; omega) (by simp) (by simp)) (Below.refl _ _) (fun _ => rfl)
    (fun pre W => DistI xs ys w pre W) (fun c pre W => DistX xs ys w c pre W)
    (OwnFrom.and (Own.from (fun s A B row hs hg hr => ⟨hs.1, cell_kept hs.2.1 hg hr, (frozen_kept hs.2.1 hg hr).trans hs.2.2.1, cell_kept hs.2.2.2.1 hg hr, (frozen_kept hs.2.2.2.1 hg hr).trans hs.2.2.2.2⟩) _) (ownFrom_below (Nat.le_refl _) (by simp; omega)))
    (fun c => OwnFrom.and (Own.from (fun s A B row hs hg hr => ⟨hs.1, hs.2.1, cell_kept hs.2.2 hg hr⟩) _) (ownFrom_below (Nat.le_refl _) (by simp; omega)))
    ⟨⟨by rw [Hid]; show 0 < _; decide, ((b1.alloc _).alloc _).cell, ((b1.alloc _).alloc _).frozen, (((b0.alloc _).alloc _).alloc _).cell, (((b0.alloc _).alloc _).alloc _).frozen⟩, hB0⟩
    (fun x => { tmps := #[.slice A xs.length ca, .slice B ys.length cb, undef, undef, .pointer (some ⟨w.heap.size, 0, none⟩), .pointer (some ⟨w.heap.size + 1, 0, none⟩), .int .i64 (cpt xs x.1), .int .i64 (cpt ys x.1), undef, undef, undef,
      .slice A xs.length ca, .slice B ys.length cb, .func (.func 113) #[] #[.pointer (some ⟨w.heap.size + 1 + 1, 0, none⟩), .pointer (some ⟨w.heap.size + 1 + 1 + 1, 0, none⟩)], .int .i64 (cpt xs x.1), .int .i64 (cpt ys x.1),
      undef, undef, undef, undef, undef, undef, undef, undef, undef, undef, undef, undef, undef, undef, undef, undef, undef, undef], defers := [] }) ?assign ?body ?done ?stop
  case assign =>
    intro l x W K hK
    gi_wp2
    exact hK
  case body =>
    rintro l pre x W ⟨⟨hs, hc, hf, hc0, hf0⟩, hB⟩ _
    have ha := cpt_all hxs.out (by decide) (by decide) x.1
    have hb := cpt_all hys.out (by decide) (by decide) x.1
    have hq := sq_wrap ha hb
    have hroom := Lib.hid (sq_room ha hb)
    have hsn := Lib.hid (sumP_snoc xs ys pre x)
    generalize cpt xs x.1 = a at *
    generalize cpt ys x.1 = b at *
    generalize sqZ a b = q at *
    clear b0 b1 b2 b3 hB0
    rcases Nat.lt_or_ge (sumP xs ys pre + q) 18446744073709551616 with hlt | hge
    · have hadd := add64_small (sumP xs ys pre) q hlt
      have hlt' := Lib.hid hlt
      clear hlt
      generalize sumP xs ys pre = s at *
      gi_wp2
      exact ⟨(KeepsOthers.setCell _ _ _).from _, ⟨(Below.refl w.heap.size W).setCell (p := ⟨w.heap.size + 1, 0, none⟩) (by simp) _, setOther (by omega) _, setOther (by omega) _⟩,
        ⟨⟨by rw [hsn.out]; exact hlt'.out, by rw [hsn.out]; exact World.cell?_setCell_same' _ _ _ (by rw [hc]; rfl), by rw [World.frozen?_setCell]; exact hf, (setOther (by omega) _).trans hc0, by rw [World.frozen?_setCell]; exact hf0⟩,
          hB.setCell (p := ⟨w.heap.size + 1, 0, none⟩) (by simp) _⟩⟩
    · obtain ⟨z, hadd⟩ := add64_big (sumP xs ys pre) q hge hs.out hroom.out
      have hge' := Lib.hid hge
      clear hge
      generalize sumP xs ys pre = s at *
      gi_wp2
      exact ⟨(KeepsOthers.setCell _ _ _).from _, ⟨rfl, by rw [hsn.out]; exact hge'.out, World.cell?_setCell_same' _ _ _ (by rw [hc0]; rfl)⟩, hB.setCell (p := ⟨w.heap.size, 0, none⟩) (Nat.le_refl _) _⟩
  case done =>
    rintro D pre W hD hU ⟨⟨hs, hc, hf, hc0, hf0⟩, hB⟩ hK
    rw [sumP_upTo xs ys pre hU] at hc
    have HS : satN (distN xs ys (max xs.length ys.length)) = distN xs ys (max xs.length ys.length) := by rw [satN, if_pos (by rw [← sumP_upTo xs ys pre hU]; exact hs.out)]
    obtain ⟨s, hs1⟩ : ∃ s, distN xs ys (max xs.length ys.length) = s := ⟨_, rfl⟩
    rw [hs1] at hc
    have HS' : Hid (satN (distN xs ys (max xs.length ys.length)) = s) := HS.trans hs1
    clear hs HS hs1
    gi_wp2
    have hK' := (KeepsOthers.setCell W ⟨w.heap.size, 0, none⟩ (.int .u64 s)).same D _ hK rfl
    refine ⟨by simp, .inl ⟨_, _, rfl, run_takeDeferred hK', ?_⟩⟩
    have hc5 := cell_kept (World.cell?_setCell_same' W ⟨w.heap.size, 0, none⟩ (.int .u64 s) (by rw [hc0]; rfl)) (grownBy_putObj' _ D (.deferred none)) (fun r e => by cases e; exact ⟨_, hK', rfl⟩)
    refine ⟨.int .u64 s, ?_, by rw [HS'.out], (hB.setCell (p := ⟨w.heap.size, 0, none⟩) (Nat.le_refl _) _).trans (belowK_b (w := w) (Nat.le_refl _) _ D _ _ (by simp at hD; omega) hK' rfl rfl)⟩
    simp [results, Try.f21, go_sem, hc5]
  case stop =>
    rintro D c pre W hD ⟨k, hk, hU⟩ ⟨⟨rfl, hge, hc0⟩, hB⟩ hK
    have HS : satN (distN xs ys (max xs.length ys.length)) = 18446744073709551615 := sat_big (distN_mono xs ys hk) (by rw [← sumP_upTo xs ys pre hU]; exact hge.out)
    have HS' := Lib.hid HS
    clear HS hge
    gi_wp2
    refine ⟨by simp, .inl ⟨_, _, rfl, run_takeDeferred hK, ?_⟩⟩
    have hc5 := cell_kept hc0 (grownBy_putObj' _ D (.deferred none)) (fun r e => by cases e; exact ⟨_, hK, rfl⟩)
    refine ⟨.int .u64 18446744073709551615, ?_, by rw [HS'.out]; rfl, hB.trans (belowK_b (w := w) (Nat.le_refl _) _ D _ _ (by simp at hD; omega) hK rfl rfl)⟩
    simp [results, Try.f21, go_sem, hc5]

end Go.Proofs.Ytajmnhnepoomjaa
