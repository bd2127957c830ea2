/- Candidates that are sorted, each with the place that it had: the cells of a row of them, and how two compare. -/
import Derived.Test.YtlgkdonaplejdaaRankCmp
import Derived.Shelf.SlSortCmp.InsertionK
import Derived.Handy
import Derived.StillTailTactics
namespace Go.Proofs.Ytlgkdonaplejdaa
open Go.RowKit Go.Shelf Go.Sort Go.Lib

/-- A candidate: its spot, its vector's slice. -/
abbrev CandT := SpotT × (Option Addr × (Nat × Nat))
/-- .. and the place that it had. -/
abbrev TagC := CandT × Nat
def encC (x : TagC) : List Value := [.int .u64 x.1.1.1.1, .int .u64 x.1.1.1.2, .int .i64 x.1.1.2, .slice x.1.2.1 x.1.2.2.1 x.1.2.2.2]
theorem encC_len (x : TagC) : (encC x).length = 4 := rfl
theorem encC_one (x : TagC) : ∀ v ∈ encC x, v.oneCell' = true := by
  intro v hv
  simp [encC] at hv
  rcases hv with rfl | rfl | rfl | rfl <;> rfl
/-- How two spots compare: -1, 0 or 1. -/
def cmpC (x y : TagC) : Int := if ltS x.1.1 y.1.1 = true then -1 else if ltS y.1.1 x.1.1 = true then 1 else 0
theorem cmpC_lt (x y : TagC) : (cmpC x y < 0) ↔ ltS x.1.1 y.1.1 = true := by
  unfold cmpC
  split
  · simp_all
  · split
    · simp_all
    · simp_all

theorem Grown.allocs {W w' : World} {o o' : Obj} (h : Grown ((W.alloc o).alloc o') w') : Grown W w' := (Grown.two W o o').trans h
set_option maxHeartbeats 1000000 in
theorem compareC_any (x y : TagC) (W : World) :
    Calls Try.prog 125 #[.agg (encC x).toArray, .agg (encC y).toArray] W fun e w' => e = .returned (.int .i64 (cmpC x y)) ∧ Grown W w' := by
  obtain ⟨⟨⟨⟨a, b⟩, s⟩, A, n, c⟩, t⟩ := x
  obtain ⟨⟨⟨⟨a', b'⟩, s'⟩, A', n', c'⟩, t'⟩ := y
  unfold encC cmpC
  simp only
  by_cases h1 : ltS ((a, b), s) ((a', b'), s') = true
  · rw [if_pos h1]
    go_enter Try.func125, Try.ntmps125
    go_wp2_with fail
    refine (Spot_any ((a, b), s) ((a', b'), s') _).mono ?_
    rw [h1]
    rintro e w' ⟨rfl, hg⟩
    go_wp2
    go_ret
    exact ⟨rfl, (Grown.two _ _ _).trans hg⟩
  · rw [if_neg h1]
    have h1' : ltS ((a, b), s) ((a', b'), s') = false := by simpa using h1
    obtain ⟨r, hr⟩ : ∃ r, ltS ((a', b'), s') ((a, b), s) = r := ⟨_, rfl⟩
    rw [hr]
    go_enter Try.func125, Try.ntmps125
    have HG : ∀ W2, Grown ((W.alloc (.cells #[.int .u64 a, .int .u64 b, .int .i64 s, .slice A n c] 165)).alloc (.cells #[.int .u64 a', .int .u64 b', .int .i64 s', .slice A' n' c'] 165)) W2 → (W2.cell? ⟨W.heap.size, 0, none⟩ = some (.int .u64 a) ∧ W2.cell? ⟨W.heap.size, 1, none⟩ = some (.int .u64 b) ∧ W2.cell? ⟨W.heap.size, 2, none⟩ = some (.int .i64 s)) ∧ (W2.cell? ⟨W.heap.size + 1, 0, none⟩ = some (.int .u64 a') ∧ W2.cell? ⟨W.heap.size + 1, 1, none⟩ = some (.int .u64 b') ∧ W2.cell? ⟨W.heap.size + 1, 2, none⟩ = some (.int .i64 s')) := by
      intro W2 hg
      have hb := hg.below
      have hc : ∀ (p : Addr) v, p.block < W.heap.size + 2 → ((W.alloc (.cells #[.int .u64 a, .int .u64 b, .int .i64 s, .slice A n c] 165)).alloc (.cells #[.int .u64 a', .int .u64 b', .int .i64 s', .slice A' n' c'] 165)).cell? p = some v → W2.cell? p = some v := fun p v hp h => (hb.cell (by simpa using hp)).trans h
      exact ⟨⟨hc _ _ (by simp) (by go_cell), hc _ _ (by simp) (by go_cell), hc _ _ (by simp) (by go_cell)⟩, hc _ _ (by simp) (by go_cell), hc _ _ (by simp) (by go_cell), hc _ _ (by simp) (by go_cell)⟩
    have HGH := Lib.hid HG
    clear HG h1
    go_wp2_with fail
    refine (Spot_any ((a, b), s) ((a', b'), s') _).mono ?_
    rw [h1']
    rintro e w1 ⟨rfl, hg⟩
    obtain ⟨⟨c0, c1, c2⟩, d0, d1, d2⟩ := HGH.out w1 hg
    have HG1 := Lib.hid ((Grown.two _ _ _).trans hg)
    clear hg HGH
    go_wp2_with fail
    refine (Spot_any ((a', b'), s') ((a, b), s) _).mono ?_
    rw [hr]
    rintro e w2 ⟨rfl, hg⟩
    cases r
    · go_wp2
      go_ret
      exact ⟨rfl, HG1.out.trans hg⟩
    · go_wp2
      go_ret
      exact ⟨rfl, HG1.out.trans hg⟩

theorem cmpLaysC (g size : Nat) (w : World) : CmpLays Try.prog 125 #[] encC 4 cmpC g 0 size w :=
  fun _ _ _ _ x y => (compareC_any x y _).mono fun _ _ ⟨he, hg⟩ => ⟨he, hg⟩

/-- Two places of a list exchanged. -/
theorem swp_lists {α : Type} [Inhabited α] (A B C : List α) (x y : α) : swp (A ++ x :: (B ++ y :: C)).toArray A.length (A.length + 1 + B.length) = (A ++ y :: (B ++ x :: C)).toArray := by
  unfold swp
  have e1 : (A ++ x :: (B ++ y :: C)).toArray[A.length]! = x := by simp
  have e2 : (A ++ x :: (B ++ y :: C)).toArray[A.length + 1 + B.length]! = y := by
    have h : (A ++ x :: (B ++ y :: C))[A.length + 1 + B.length]? = some y := by
      rw [List.getElem?_append_right (by omega), show A.length + 1 + B.length - A.length = B.length + 1 by omega, List.getElem?_cons_succ, List.getElem?_append_right (Nat.le_refl _), Nat.sub_self, List.getElem?_cons_zero]
    rw [getElem!_def]
    simp [h]
  rw [e1, e2]
  simp only [List.setIfInBounds_toArray]
  congr 1
  rw [List.set_append_right _ _ (Nat.le_refl _), Nat.sub_self, List.set_cons_zero, List.set_append_right _ _ (by omega), show A.length + 1 + B.length - A.length = B.length + 1 by omega, List.set_cons_succ, List.set_append_right _ _ (Nat.le_refl _), Nat.sub_self, List.set_cons_zero]
theorem swp_comm {α : Type} [Inhabited α] (d : Array α) (i j : Nat) (h : i ≠ j) : swp d i j = swp d j i := by
  unfold swp
  exact Array.setIfInBounds_comm _ _ h

/-- A world of the sort's. -/
abbrev SwC (w : World) (g m : Nat) (L : List TagC) (os : Array Obj) : World := sortWorldK encC 4 w g 0 m L.toArray os
/-- What a call of the sort's leaves: the row holds L. -/
def RowC (w : World) (g : Nat) (L : List TagC) (e : Ending) (W : World) : Prop := e = .returned (.tuple #[]) ∧ ∃ m os, W = SwC w g m L os
/-- The row's cells. -/
structure CellC (W : World) (g i : Nat) (x : TagC) : Prop where
  c0 : W.cell? ⟨g, i * 4, none⟩ = some (.int .u64 x.1.1.1.1)
  c1 : W.cell? ⟨g, i * 4 + 1, none⟩ = some (.int .u64 x.1.1.1.2)
  c2 : W.cell? ⟨g, i * 4 + 2, none⟩ = some (.int .i64 x.1.1.2)
  c3 : W.cell? ⟨g, i * 4 + 3, none⟩ = some (.slice x.1.2.1 x.1.2.2.1 x.1.2.2.2)
  f0 : W.frozen? ⟨g, i * 4, none⟩ = false
  f1 : W.frozen? ⟨g, i * 4 + 1, none⟩ = false
  f2 : W.frozen? ⟨g, i * 4 + 2, none⟩ = false
  f3 : W.frozen? ⟨g, i * 4 + 3, none⟩ = false
theorem CellC.of {W : World} {g i : Nat} {d : Array TagC} (h : HoldsK encC 4 W g 0 d) (hi : i < d.size) : CellC W g i d[i]! := by
  have q := fun c hc => h.cell (i := i) (c := c) hi hc
  have q0 := q 0 (by decide)
  have q1 := q 1 (by decide)
  have q2 := q 2 (by decide)
  have q3 := q 3 (by decide)
  simp only [Nat.zero_add, Nat.add_zero] at q0 q1 q2 q3
  exact ⟨q0.1, q1.1, q2.1, q3.1, q0.2, q1.2, q2.2, q3.2⟩
theorem holdsC {w : World} {g m n : Nat} {L : List TagC} {os : Array Obj} {d : Array TagC} (hH : HoldsK encC 4 w g 0 d) (hg : g < w.heap.size) (hd : d.size = n) (hn : L.length = n) : HoldsK encC 4 (SwC w g m L os) g 0 L.toArray :=
  holdsK_sortWorldK_c encC 4 w g 0 d L.toArray m os hH hg (by simp; omega)
/-- The cells behind a run of four stores elsewhere. -/
theorem CellC.behind {W : World} {g i j : Nat} {x : TagC} (h : CellC W g j x) (hij : i ≠ j) (v0 v1 v2 v3 : Value) : CellC ((((W.setCell ⟨g, i * 4, none⟩ v0).setCell ⟨g, i * 4 + 1, none⟩ v1).setCell ⟨g, i * 4 + 2, none⟩ v2).setCell ⟨g, i * 4 + 3, none⟩ v3) g j x := by
  have ne : ∀ a b, a < 4 → b < 4 → (⟨g, i * 4 + a, none⟩ : Addr) ≠ ⟨g, j * 4 + b, none⟩ := fun a b ha hb e => by
    injection e with e1 e2
    omega
  have st : ∀ b, b < 4 → ((((W.setCell ⟨g, i * 4, none⟩ v0).setCell ⟨g, i * 4 + 1, none⟩ v1).setCell ⟨g, i * 4 + 2, none⟩ v2).setCell ⟨g, i * 4 + 3, none⟩ v3).cell? ⟨g, j * 4 + b, none⟩ = W.cell? ⟨g, j * 4 + b, none⟩ := fun b hb => by
    rw [World.cell?_setCell_other _ _ _ _ (ne 3 b (by decide) hb), World.cell?_setCell_other _ _ _ _ (ne 2 b (by decide) hb), World.cell?_setCell_other _ _ _ _ (ne 1 b (by decide) hb), World.cell?_setCell_other _ _ _ _ (by have := ne 0 b (by decide) hb; rwa [Nat.add_zero] at this)]
  exact ⟨(st 0 (by decide)).trans h.c0, (st 1 (by decide)).trans h.c1, (st 2 (by decide)).trans h.c2, (st 3 (by decide)).trans h.c3, by simp only [World.frozen?_setCell]; exact h.f0, by simp only [World.frozen?_setCell]; exact h.f1, by simp only [World.frozen?_setCell]; exact h.f2, by simp only [World.frozen?_setCell]; exact h.f3⟩
theorem drew_set (W : World) (a : Addr) (v : Value) : (W.setCell a v).drew = W.drew.setCell a v := rfl
/-- The exchange's eight stores. -/
theorem stores_swp {w : World} {g m i j : Nat} {L : List TagC} {os : Array Obj} {x y : TagC} (hg : g < w.heap.size) (hi : i < L.length) (hj : j < L.length) (hx : L.toArray[i]! = x) (hy : L.toArray[j]! = y) :
    (((((((((SwC w g m L os).setCell ⟨g, i * 4, none⟩ (.int .u64 y.1.1.1.1)).setCell ⟨g, i * 4 + 1, none⟩ (.int .u64 y.1.1.1.2)).setCell ⟨g, i * 4 + 2, none⟩ (.int .i64 y.1.1.2)).setCell ⟨g, i * 4 + 3, none⟩ (.slice y.1.2.1 y.1.2.2.1 y.1.2.2.2)).setCell ⟨g, j * 4, none⟩ (.int .u64 x.1.1.1.1)).setCell ⟨g, j * 4 + 1, none⟩ (.int .u64 x.1.1.1.2)).setCell ⟨g, j * 4 + 2, none⟩ (.int .i64 x.1.1.2)).setCell ⟨g, j * 4 + 3, none⟩ (.slice x.1.2.1 x.1.2.2.1 x.1.2.2.2)).drew = sortWorldK encC 4 w g 0 (m + 1) (swp L.toArray i j) os := by
  have h := sortWorldK_swp_c encC 4 w g 0 (fun x => encC_len x) m L.toArray os hg i j (by simpa using hi) (by simpa using hj)
  rw [hx, hy] at h
  rw [← h]
  unfold SwC
  generalize sortWorldK encC 4 w g 0 m L.toArray os = W
  simp only [drew_set, encC, World.setCells, Nat.zero_add, Nat.add_assoc, Nat.reduceAdd]

end Go.Proofs.Ytlgkdonaplejdaa
