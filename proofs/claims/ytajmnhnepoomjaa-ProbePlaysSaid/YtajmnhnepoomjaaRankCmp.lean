/- The order of hits and of spots: the plain side, and the contracts of package rank's comparisons. -/
import Derived.Test.YtajmnhnepoomjaaMem
import Derived.Test.YtajmnhnepoomjaaShelf
namespace Go.Proofs.Ytajmnhnepoomjaa
open Go.RowKit Go.Sort Go.Shelf

/-- Below 0, 0, above 0: as x stands to y. -/
def cmpZ (x y : Int) : Int := if x < y then -1 else if y < x then 1 else 0

theorem nanI_any (x : Int) (w : World) : Calls Try.prog 164 #[.int .i64 x] w fun e w' => e = .returned (.bool false) ∧ w = w' := by
  go_enter Try.func164, Try.ntmps164
  go_wp2
  go_ret
  exact ⟨ret_bool (by simp), rfl⟩
theorem nanU_any (x : Int) (w : World) : Calls Try.prog 158 #[.int .u64 x] w fun e w' => e = .returned (.bool false) ∧ w = w' := by
  go_enter Try.func158, Try.ntmps158
  go_wp2
  go_ret
  exact ⟨ret_bool (by simp), rfl⟩

theorem cmpI_any (x y : Int) (w : World) : Calls Try.prog 128 #[.int .i64 x, .int .i64 y] w fun e w' => e = .returned (.int .i64 (cmpZ x y)) ∧ w = w' := by
  rcases Int.lt_trichotomy x y with h | h | h
  · have hr : cmpZ x y = -1 := if_pos h
    rw [hr]; clear hr
    go_enter Try.func128, Try.ntmps128
    go_wp2_with (go_at_call 164; refine (nanI_any _ _).mono ?_; rintro e w' ⟨rfl, rfl⟩)
    go_ret
    exact ⟨rfl, rfl⟩
  · have hr : cmpZ x y = 0 := by unfold cmpZ; rw [if_neg (by omega), if_neg (by omega)]
    rw [hr]; clear hr
    subst h
    go_enter Try.func128, Try.ntmps128
    go_wp2_with (go_at_call 164; refine (nanI_any _ _).mono ?_; rintro e w' ⟨rfl, rfl⟩)
    go_ret
    exact ⟨rfl, rfl⟩
  · have hr : cmpZ x y = 1 := by unfold cmpZ; rw [if_neg (by omega), if_pos h]
    have h' : ¬ x < y := by omega
    rw [hr]; clear hr
    go_enter Try.func128, Try.ntmps128
    go_wp2_with (go_at_call 164; refine (nanI_any _ _).mono ?_; rintro e w' ⟨rfl, rfl⟩)
    go_ret
    exact ⟨rfl, rfl⟩
theorem cmpU_any (x y : Int) (w : World) : Calls Try.prog 115 #[.int .u64 x, .int .u64 y] w fun e w' => e = .returned (.int .i64 (cmpZ x y)) ∧ w = w' := by
  rcases Int.lt_trichotomy x y with h | h | h
  · have hr : cmpZ x y = -1 := if_pos h
    rw [hr]; clear hr
    go_enter Try.func115, Try.ntmps115
    go_wp2_with (go_at_call 158; refine (nanU_any _ _).mono ?_; rintro e w' ⟨rfl, rfl⟩)
    go_ret
    exact ⟨rfl, rfl⟩
  · have hr : cmpZ x y = 0 := by unfold cmpZ; rw [if_neg (by omega), if_neg (by omega)]
    rw [hr]; clear hr
    subst h
    go_enter Try.func115, Try.ntmps115
    go_wp2_with (go_at_call 158; refine (nanU_any _ _).mono ?_; rintro e w' ⟨rfl, rfl⟩)
    go_ret
    exact ⟨rfl, rfl⟩
  · have hr : cmpZ x y = 1 := by unfold cmpZ; rw [if_neg (by omega), if_pos h]
    have h' : ¬ x < y := by omega
    rw [hr]; clear hr
    go_enter Try.func115, Try.ntmps115
    go_wp2_with (go_at_call 158; refine (nanU_any _ _).mono ?_; rintro e w' ⟨rfl, rfl⟩)
    go_ret
    exact ⟨rfl, rfl⟩

/-- A hit: its distance, its id. -/
abbrev HitT := Int × Int
/-- A spot: its hit, its slot. -/
abbrev SpotT := HitT × Int
def encH (x : HitT) : List Value := [.int .u64 x.1, .int .u64 x.2]
def encS (x : SpotT) : List Value := [.int .u64 x.1.1, .int .u64 x.1.2, .int .i64 x.2]
def cmpH (x y : HitT) : Int := if x.1 = y.1 then cmpZ x.2 y.2 else cmpZ x.1 y.1
def cmpS (x y : SpotT) : Int := if x.1 = y.1 then cmpZ x.2 y.2 else cmpH x.1 y.1

/-- What a comparison leaves: draws, and blocks of its own. -/
def Grown (W w' : World) : Prop := ∃ q os', w' = grow (W.drewN q) os'
theorem Grown.two (W : World) (o o' : Obj) : Grown W ((W.alloc o).alloc o') := ⟨0, #[o, o'], by rw [alloc_eq_grow, alloc_eq_grow, grow_grow]; rfl⟩

theorem Grown.trans {A B C : World} (h : Grown A B) (k : Grown B C) : Grown A C := by
  obtain ⟨q, os, rfl⟩ := h
  obtain ⟨q', os', rfl⟩ := k
  exact ⟨q + q', os ++ os', by rw [← World.drewN_drewN, ← grow_grow]; rfl⟩
theorem Grown.below {W w' : World} (h : Grown W w') : Below W.heap.size W w' := by
  obtain ⟨q, os, rfl⟩ := h
  refine ⟨rfl, rfl, rfl, ?_, fun k hk => ?_⟩
  · show W.heap.size ≤ (W.heap ++ os).size
    rw [Array.size_append]; omega
  · show (W.heap ++ os)[k]? = _
    rw [Array.getElem?_append_left hk]

theorem compareHits_any (x y : HitT) (W : World) :
    Calls Try.prog 70 #[.agg #[.int .u64 x.1, .int .u64 x.2], .agg #[.int .u64 y.1, .int .u64 y.2]] W fun e w' => e = .returned (.int .i64 (cmpH x y)) ∧ Grown W w' := by
  obtain ⟨a, b⟩ := x
  obtain ⟨c, d⟩ := y
  by_cases h : a = c
  · have hr : cmpH (a, b) (c, d) = cmpZ b d := if_pos h
    rw [hr]; clear hr
    subst h
    go_enter Try.func70, Try.ntmps70
    go_wp2_with (go_at_call 115; refine (cmpU_any _ _ _).mono ?_; rintro e w' ⟨rfl, rfl⟩)
    go_ret
    exact ⟨rfl, Grown.two _ _ _⟩
  · have hr : cmpH (a, b) (c, d) = cmpZ a c := if_neg h
    have hne : (a != c) = true := by simpa using h
    rw [hr]; clear hr h
    go_enter Try.func70, Try.ntmps70
    go_wp2_with (go_at_call 115; refine (cmpU_any _ _ _).mono ?_; rintro e w' ⟨rfl, rfl⟩)
    go_ret
    exact ⟨rfl, Grown.two _ _ _⟩

theorem compareSpots_any (x y : SpotT) (W : World) :
    Calls Try.prog 88 #[.agg #[.int .u64 x.1.1, .int .u64 x.1.2, .int .i64 x.2], .agg #[.int .u64 y.1.1, .int .u64 y.1.2, .int .i64 y.2]] W fun e w' => e = .returned (.int .i64 (cmpS x y)) ∧ Grown W w' := by
  obtain ⟨⟨a, b⟩, s⟩ := x
  obtain ⟨⟨c, d⟩, t⟩ := y
  by_cases h : ((a, b) : HitT) = (c, d)
  · have hr : cmpS ((a, b), s) ((c, d), t) = cmpZ s t := if_pos h
    rw [hr]; clear hr
    injection h with h1 h2
    subst h1 h2
    go_enter Try.func88, Try.ntmps88
    go_wp2_with (go_at_call 128; refine (cmpI_any _ _ _).mono ?_; rintro e w' ⟨rfl, rfl⟩)
    go_ret
    exact ⟨rfl, Grown.two _ _ _⟩
  · have hr : cmpS ((a, b), s) ((c, d), t) = cmpH (a, b) (c, d) := if_neg h
    have hcase : (¬ a = c) ∨ (a = c ∧ ¬ b = d) := by
      by_cases e : a = c
      · subst e
        exact .inr ⟨rfl, fun e2 => h (by rw [e2])⟩
      · exact .inl e
    rw [hr]; clear hr h
    rcases hcase with hne | ⟨rfl, hne⟩
    all_goals
      go_enter Try.func88, Try.ntmps88
      go_wp2_with (go_at_call 70; refine (compareHits_any (_, _) (_, _) _).mono ?_; rintro e w' ⟨rfl, hg⟩)
      go_ret
      exact ⟨rfl, (Grown.two _ _ _).trans hg⟩

/-- Is x ahead of y? -/
def ltH (x y : HitT) : Bool := decide (cmpH x y < 0)
def ltS (x y : SpotT) : Bool := decide (cmpS x y < 0)

theorem Hit_any (x y : HitT) (W : World) :
    Calls Try.prog 22 #[.agg #[.int .u64 x.1, .int .u64 x.2], .agg #[.int .u64 y.1, .int .u64 y.2]] W fun e w' => e = .returned (.bool (ltH x y)) ∧ Grown W w' := by
  obtain ⟨a, b⟩ := x
  obtain ⟨c, d⟩ := y
  go_enter Try.func22, Try.ntmps22
  go_wp2_with (go_at_call 70; refine (compareHits_any (_, _) (_, _) _).mono ?_; rintro e w' ⟨rfl, hg⟩)
  go_ret
  exact ⟨rfl, (Grown.two _ _ _).trans hg⟩
theorem Spot_any (x y : SpotT) (W : World) :
    Calls Try.prog 55 #[.agg #[.int .u64 x.1.1, .int .u64 x.1.2, .int .i64 x.2], .agg #[.int .u64 y.1.1, .int .u64 y.1.2, .int .i64 y.2]] W fun e w' => e = .returned (.bool (ltS x y)) ∧ Grown W w' := by
  obtain ⟨⟨a, b⟩, s⟩ := x
  obtain ⟨⟨c, d⟩, t⟩ := y
  go_enter Try.func55, Try.ntmps55
  go_wp2_with (go_at_call 88; refine (compareSpots_any ((_, _), _) ((_, _), _) _).mono ?_; rintro e w' ⟨rfl, hg⟩)
  go_ret
  exact ⟨rfl, (Grown.two _ _ _).trans hg⟩

theorem cmpZ_ways (x y : Int) : (x < y ∧ cmpZ x y = -1) ∨ (x = y ∧ cmpZ x y = 0) ∨ (y < x ∧ cmpZ x y = 1) := by
  unfold cmpZ
  rcases Int.lt_trichotomy x y with h | h | h
  · exact .inl ⟨h, if_pos h⟩
  · exact .inr (.inl ⟨h, by rw [if_neg (by omega), if_neg (by omega)]⟩)
  · exact .inr (.inr ⟨h, by rw [if_neg (by omega), if_pos h]⟩)
theorem ltH_iff (x y : HitT) : ltH x y = true ↔ x.1 < y.1 ∨ (x.1 = y.1 ∧ x.2 < y.2) := by
  unfold ltH cmpH
  rw [decide_eq_true_iff]
  split
  · rcases cmpZ_ways x.2 y.2 with ⟨h, e⟩ | ⟨h, e⟩ | ⟨h, e⟩ <;> rw [e] <;> omega
  · rcases cmpZ_ways x.1 y.1 with ⟨h, e⟩ | ⟨h, e⟩ | ⟨h, e⟩ <;> rw [e] <;> omega
theorem ltS_iff (x y : SpotT) : ltS x y = true ↔ x.1.1 < y.1.1 ∨ (x.1.1 = y.1.1 ∧ (x.1.2 < y.1.2 ∨ (x.1.2 = y.1.2 ∧ x.2 < y.2))) := by
  obtain ⟨⟨a, b⟩, s⟩ := x
  obtain ⟨⟨c, d⟩, t⟩ := y
  unfold ltS cmpS
  rw [decide_eq_true_iff]
  split
  · rename_i h
    injection h with h1 h2
    rcases cmpZ_ways s t with ⟨h, e⟩ | ⟨h, e⟩ | ⟨h, e⟩ <;> simp only [e] <;> omega
  · rename_i h
    have hl := ltH_iff (a, b) (c, d)
    unfold ltH at hl
    rw [decide_eq_true_iff] at hl
    rw [hl]
    have hne : ¬ (a = c ∧ b = d) := fun k => h (by rw [k.1, k.2])
    simp only
    omega
theorem swoS : SWO (ltOf cmpS) where
  irrefl x := by
    have := ltS_iff x x
    show ltS x x = false
    cases e : ltS x x
    · rfl
    · rw [e] at this; have := this.1 rfl; omega
  trans x y z h1 h2 := by
    have a1 := (ltS_iff x y).1 h1
    have a2 := (ltS_iff y z).1 h2
    exact (ltS_iff x z).2 (by omega)
  ntrans x y z h1 h2 := by
    have a1 : ¬ ltS x y = true := by rw [show ltS x y = false from h1]; decide
    have a2 : ¬ ltS y z = true := by rw [show ltS y z = false from h2]; decide
    rw [ltS_iff] at a1 a2
    show ltS x z = false
    cases e : ltS x z
    · rfl
    · have := (ltS_iff x z).1 e; omega
theorem swoH : SWO (ltOf cmpH) where
  irrefl x := by
    have := ltH_iff x x
    show ltH x x = false
    cases e : ltH x x
    · rfl
    · rw [e] at this; have := this.1 rfl; omega
  trans x y z h1 h2 := by
    have a1 := (ltH_iff x y).1 h1
    have a2 := (ltH_iff y z).1 h2
    exact (ltH_iff x z).2 (by omega)
  ntrans x y z h1 h2 := by
    have a1 : ¬ ltH x y = true := by rw [show ltH x y = false from h1]; decide
    have a2 : ¬ ltH y z = true := by rw [show ltH y z = false from h2]; decide
    rw [ltH_iff] at a1 a2
    show ltH x z = false
    cases e : ltH x z
    · rfl
    · have := (ltH_iff x z).1 e; omega
theorem oneS (x y : SpotT) (h1 : ltOf cmpS x y = false) (h2 : ltOf cmpS y x = false) : x = y := by
  have a1 : ¬ ltS x y = true := by rw [show ltS x y = false from h1]; decide
  have a2 : ¬ ltS y x = true := by rw [show ltS y x = false from h2]; decide
  rw [ltS_iff] at a1 a2
  obtain ⟨⟨a, b⟩, s⟩ := x
  obtain ⟨⟨c, d⟩, t⟩ := y
  simp only at a1 a2
  obtain rfl : a = c := by omega
  obtain rfl : b = d := by omega
  obtain rfl : s = t := by omega
  rfl
theorem oneH (x y : HitT) (h1 : ltOf cmpH x y = false) (h2 : ltOf cmpH y x = false) : x = y := by
  have a1 : ¬ ltH x y = true := by rw [show ltH x y = false from h1]; decide
  have a2 : ¬ ltH y x = true := by rw [show ltH y x = false from h2]; decide
  rw [ltH_iff] at a1 a2
  obtain ⟨a, b⟩ := x
  obtain ⟨c, d⟩ := y
  simp only at a1 a2
  obtain rfl : a = c := by omega
  obtain rfl : b = d := by omega
  rfl

end Go.Proofs.Ytajmnhnepoomjaa
