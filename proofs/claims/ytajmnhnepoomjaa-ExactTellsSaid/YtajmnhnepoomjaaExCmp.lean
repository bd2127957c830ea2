/- exact.compare, by contract. -/
import Derived.Test.YtajmnhnepoomjaaRankCmp
import Derived.Test.YtajmnhnepoomjaaEdSpot
import Derived.Handy
import Derived.Lib.Hide
namespace Go.Proofs.Ytajmnhnepoomjaa
open Go.RowKit Go.Shelf Go.Sort Go.Lib

theorem cmpH_is (x y : HitT) : cmpH x y = if ltH x y = true then -1 else if ltH y x = true then 1 else 0 := by
  unfold ltH cmpH cmpZ
  simp only [decide_eq_true_eq]
  obtain ⟨a, b⟩ := x
  obtain ⟨c, d⟩ := y
  simp only
  by_cases h : a = c
  · subst h
    simp only [if_true]
    split <;> (try split) <;> simp_all <;> omega
  · have h' : ¬ c = a := fun e => h e.symm
    simp only [if_neg h, if_neg h']
    split <;> (try split) <;> simp_all <;> omega
set_option maxHeartbeats 1000000 in
theorem exCompare_any (x y : HitT) (W : World) :
    Calls Try.prog 64 #[.agg #[.int .u64 x.1, .int .u64 x.2], .agg #[.int .u64 y.1, .int .u64 y.2]] W fun e w' => e = .returned (.int .i64 (cmpH x y)) ∧ Grown W w' := by
  rw [cmpH_is]
  obtain ⟨a, b⟩ := x
  obtain ⟨c, d⟩ := y
  by_cases h1 : ltH (a, b) (c, d) = true
  · rw [if_pos h1]
    go_enter Try.func64, Try.ntmps64
    go_wp2_with fail
    refine (Hit_any (a, b) (c, d) _).mono ?_
    rw [h1]
    rintro e w' ⟨rfl, hg⟩
    go_wp2
    go_ret
    exact ⟨rfl, (Grown.two _ _ _).trans hg⟩
  · rw [if_neg h1]
    have h1' : ltH (a, b) (c, d) = false := by simpa using h1
    obtain ⟨r, hr⟩ : ∃ r, ltH (c, d) (a, b) = r := ⟨_, rfl⟩
    rw [hr]
    have HG : ∀ W2, Grown ((W.alloc (.cells #[.int .u64 a, .int .u64 b] 26)).alloc (.cells #[.int .u64 c, .int .u64 d] 26)) W2 → (W2.cell? ⟨W.heap.size, 0, none⟩ = some (.int .u64 a) ∧ W2.cell? ⟨W.heap.size, 1, none⟩ = some (.int .u64 b)) ∧ (W2.cell? ⟨W.heap.size + 1, 0, none⟩ = some (.int .u64 c) ∧ W2.cell? ⟨W.heap.size + 1, 1, none⟩ = some (.int .u64 d)) := by
      intro W2 hg
      have hb := hg.below
      have hc : ∀ (p : Addr) v, p.block < W.heap.size + 2 → ((W.alloc (.cells #[.int .u64 a, .int .u64 b] 26)).alloc (.cells #[.int .u64 c, .int .u64 d] 26)).cell? p = some v → W2.cell? p = some v := fun p v hp h => (hb.cell (by simpa using hp)).trans h
      exact ⟨⟨hc _ _ (by simp) (by go_cell), hc _ _ (by simp) (by go_cell)⟩, hc _ _ (by simp) (by go_cell), hc _ _ (by simp) (by go_cell)⟩
    have HGH := Lib.hid HG
    clear HG
    go_enter Try.func64, Try.ntmps64
    go_wp2_with fail
    refine (Hit_any (a, b) (c, d) _).mono ?_
    rw [h1']
    rintro e w1 ⟨rfl, hg⟩
    obtain ⟨⟨x0, x1⟩, y0, y1⟩ := HGH.out w1 hg
    have HG1 := Lib.hid ((Grown.two _ _ _).trans hg)
    clear hg HGH
    go_wp2_with fail
    refine (Hit_any (c, d) (a, b) _).mono ?_
    rw [hr]
    rintro e w2 ⟨rfl, hg⟩
    have HG2 := Lib.hid (HG1.out.trans hg)
    clear hg HG1 hr
    cases r
    all_goals
      go_wp2
      go_ret
      exact ⟨rfl, HG2.out⟩
theorem cmpLaysX (blk off size : Nat) (w : World) : CmpLays Try.prog 64 #[] encH 2 cmpH blk off size w :=
  fun _ _ _ _ x y => (exCompare_any x y _).mono fun _ _ ⟨he, hg⟩ => ⟨he, hg⟩

end Go.Proofs.Ytajmnhnepoomjaa
