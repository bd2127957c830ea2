/- A map of ids whose refs are an arena's slots: the plain side of TopStale. -/
import Derived.Test.YtoaikdnooafjmaaArOnceP
import Derived.Test.YtoaikdnooafjmaaImPlain
namespace Go.Proofs.Ytoaikdnooafjmaa

/-- Each id's slot is live, of that generation, and its own; what is stale is of an elder generation; all other slots are free. -/
structure Stl (x : AR) (L : List EntI) (T : List (Int × Nat)) : Prop where
  live : ∀ e ∈ L, ∃ j : Nat, e.2.1 = (j : Int) + 1 ∧ j < x.st.length ∧ x.st.getD j 0 = 2 ∧ e.2.2 = ((x.gn.getD j 0 : Nat) : Int)
  inj : ∀ e ∈ L, ∀ e' ∈ L, e.2.1 = e'.2.1 → e = e'
  old : ∀ p ∈ T, ∃ j : Nat, p.1 = (j : Int) + 1 ∧ j < x.st.length ∧ p.2 < x.gn.getD j 0
  c2 : x.st.count 2 = L.length
  c0 : x.st.count 0 + L.length = x.st.length
section
variable {n : Nat} {x : AR} {L : List EntI} {T : List (Int × Nat)} {id : Int}
theorem Stl.new (k : Nat) : Stl (arNew k) [] [] :=
  ⟨fun e he => (by cases he), fun e he => (by cases he), fun p hp => (by cases hp), (by simp only [arNew]; rw [count_rep]; rfl), (by simp only [arNew]; rw [count_rep]; simp)⟩
theorem arMv_at {j t : Nat} (hj : j < x.st.length) (h : x.st.getD j 0 + 1 = t) (h2 : 2 ≤ t) (h4 : t ≤ 4) : arMvB x ((j : Int) + 1) (t : Int) = true ∧ arMvX x ((j : Int) + 1) (t : Int) = { x with st := x.st.set j t } := by
  have hb : arMvB x ((j : Int) + 1) (t : Int) = true := by
    unfold arMvB
    rw [arSt_in hj]
    exact decide_eq_true (by omega)
  refine ⟨hb, ?_⟩
  unfold arMvX
  rw [if_pos hb]
  rfl
theorem arFr_at {j : Nat} (hj : j < x.st.length) (h : x.st.getD j 0 = 1 ∨ x.st.getD j 0 = 4) : arFrB x ((j : Int) + 1) = true ∧ arFrX x ((j : Int) + 1) = arFrE x j := by
  have hb : arFrB x ((j : Int) + 1) = true := by
    unfold arFrB
    rw [arSt_in hj]
    exact decide_eq_true (by omega)
  refine ⟨hb, ?_⟩
  unfold arFrX
  rw [if_pos hb]
  rfl
theorem delI_in {e : EntI} (h : e ∈ delI L id) : e ∈ L ∧ e.1 ≠ id := by
  have := List.mem_filter.1 h
  exact ⟨this.1, by simpa using this.2⟩
/-- An id's ref is dropped, and its slot freed. -/
theorem Stl.drop (h : Stl x L T) (hf : AFit n x) (hr : RiseI L) {s g : Int} (hg : findI L id = some (s, g)) : ∃ gn : Nat, g = (gn : Int) ∧ arMvB x s 3 = true ∧ arMvB (arMvX x s 3) s 4 = true ∧ arFrB (arMvX (arMvX x s 3) s 4) s = true ∧
    Stl (arFrX (arMvX (arMvX x s 3) s 4) s) (delI L id) (T ++ [(s, gn)]) := by
  have hm := findI_mem hg
  obtain ⟨j, hs, hj, h2, hgn⟩ := h.live _ hm
  simp only at hs hgn
  subst hs hgn
  obtain ⟨a1, a2⟩ := arMv_at (x := x) (j := j) (t := 3) hj (by omega) (by decide) (by decide)
  have a1 : arMvB x ((j : Int) + 1) 3 = true := a1
  have a2 : arMvX x ((j : Int) + 1) 3 = { x with st := x.st.set j 3 } := a2
  have hj3 : j < ({ x with st := x.st.set j 3 } : AR).st.length := by simp only [List.length_set]; exact hj
  have g3 : ({ x with st := x.st.set j 3 } : AR).st.getD j 0 = 3 := by simp only; rw [getD_set, if_pos ⟨rfl, hj⟩]
  obtain ⟨b1, b2⟩ := arMv_at (x := { x with st := x.st.set j 3 }) (j := j) (t := 4) hj3 (by rw [g3]) (by decide) (by decide)
  have b1 : arMvB { x with st := x.st.set j 3 } ((j : Int) + 1) 4 = true := b1
  have b2 : arMvX { x with st := x.st.set j 3 } ((j : Int) + 1) 4 = { x with st := x.st.set j 4 } := b2.trans (by simp only [List.set_set])
  have hj4 : j < ({ x with st := x.st.set j 4 } : AR).st.length := by simp only [List.length_set]; exact hj
  have g4 : ({ x with st := x.st.set j 4 } : AR).st.getD j 0 = 4 := by simp only; rw [getD_set, if_pos ⟨rfl, hj⟩]
  obtain ⟨c1, c2⟩ := arFr_at (x := { x with st := x.st.set j 4 }) (j := j) hj4 (.inr g4)
  have hE : arFrE { x with st := x.st.set j 4 } j = ⟨x.st.set j 0, x.gn.set j (x.gn.getD j 0 + 1), x.fr ++ [j + 1]⟩ := by simp only [arFrE, List.set_set]
  rw [a2, b2, c2, hE]
  have hgl : j < x.gn.length := by rw [hf.len]; exact hj
  refine ⟨_, rfl, a1, b1, c1, ⟨fun e he => ?_, fun e he e' he' hee => h.inj e (delI_in he).1 e' (delI_in he').1 hee, fun p hp => ?_, ?_, ?_⟩⟩
  · obtain ⟨he1, he2⟩ := delI_in he
    obtain ⟨i, p1, p2, p3, p4⟩ := h.live e he1
    have hij : i ≠ j := fun q => he2 (by
      have := h.inj e he1 _ hm (by rw [p1, q])
      rw [this])
    refine ⟨i, p1, by simp only [List.length_set]; exact p2, ?_, ?_⟩
    · simp only
      rw [getD_set, if_neg (fun q => hij q.1)]
      exact p3
    · simp only
      rw [getD_set, if_neg (fun q => hij q.1)]
      exact p4
  · simp only [List.length_set]
    rcases List.mem_append.1 hp with hp | hp
    · obtain ⟨i, p1, p2, p3⟩ := h.old p hp
      refine ⟨i, p1, p2, ?_⟩
      rw [getD_set]
      split
      · rename_i q; rw [q.1] at p3; omega
      · exact p3
    · rw [List.mem_singleton.1 hp]
      refine ⟨j, rfl, hj, ?_⟩
      rw [getD_set, if_pos ⟨rfl, hgl⟩]
      exact Nat.lt_succ_self _
  · have := delI_len hr (k := id) (by rw [hg]; simp)
    have hc := h.c2
    simp only
    rw [count_set _ hj, h2, if_pos rfl, if_neg (by decide), hc]
    omega
  · have := delI_len hr (k := id) (by rw [hg]; simp)
    have hc := h.c0
    simp only [List.length_set]
    rw [count_set _ hj, h2, if_neg (by decide), if_pos rfl]
    omega
/-- A slot is told, and freed again. -/
theorem Stl.back (h : Stl x L T) (hf : AFit n x) (hb : alB x = true) : arFrB (alX x) (alS x : Nat) = true ∧ Stl (arFrX (alX x) (alS x : Nat)) L T := by
  obtain ⟨j, e1, hj, h0, e2, e3⟩ := alS_in hf hb
  rw [e1, e3]
  have hj' : j < (arAlE x x.fr.dropLast (j + 1)).st.length := by simp only [arAlE, List.length_set]; exact hj
  have g1 : (arAlE x x.fr.dropLast (j + 1)).st.getD j 0 = 1 := by simp only [arAlE, Nat.add_sub_cancel]; rw [getD_set, if_pos ⟨rfl, hj⟩]
  obtain ⟨c1, c2⟩ := arFr_at hj' (.inl g1)
  rw [show ((j + 1 : Nat) : Int) = (j : Int) + 1 by omega, c2]
  have hgl : j < x.gn.length := by rw [hf.len]; exact hj
  have hst : (x.st.set j 1).set j 0 = x.st := by
    rw [List.set_set]
    apply List.ext_getElem (by simp)
    intro i hi1 hi2
    rw [List.getElem_set]
    split
    · rename_i q
      subst q
      rw [List.getD_eq_getElem?_getD, List.getElem?_eq_getElem hj] at h0
      exact h0.symm
    · rfl
  refine ⟨c1, ?_⟩
  simp only [arFrE, arAlE, Nat.add_sub_cancel, hst]
  refine ⟨fun e he => ?_, h.inj, fun p hp => ?_, h.c2, h.c0⟩
  · obtain ⟨i, p1, p2, p3, p4⟩ := h.live e he
    have hij : i ≠ j := fun q => by rw [q, h0] at p3; cases p3
    refine ⟨i, p1, p2, p3, ?_⟩
    simp only
    rw [getD_set, if_neg (fun q => hij q.1)]
    exact p4
  · obtain ⟨i, p1, p2, p3⟩ := h.old p hp
    refine ⟨i, p1, p2, ?_⟩
    simp only
    rw [getD_set]
    split
    · rename_i q; rw [q.1] at p3; omega
    · exact p3
/-- A slot is told, and is an id's. -/
theorem Stl.put (h : Stl x L T) (hf : AFit n x) (hb : alB x = true) (_hn : findI L id = none) : arMvB (alX x) (alS x : Nat) 2 = true ∧ Stl (arMvX (alX x) (alS x : Nat) 2) (insI L id ((alS x : Nat), (alG x : Nat))) T := by
  obtain ⟨j, e1, hj, h0, e2, e3⟩ := alS_in hf hb
  rw [e1, e2, e3]
  have hj' : j < (arAlE x x.fr.dropLast (j + 1)).st.length := by simp only [arAlE, List.length_set]; exact hj
  have g1 : (arAlE x x.fr.dropLast (j + 1)).st.getD j 0 = 1 := by simp only [arAlE, Nat.add_sub_cancel]; rw [getD_set, if_pos ⟨rfl, hj⟩]
  obtain ⟨c1, c2⟩ := arMv_at (t := 2) hj' (by rw [g1]) (by decide) (by decide)
  have c1 : arMvB (arAlE x x.fr.dropLast (j + 1)) ((j : Int) + 1) 2 = true := c1
  have c2 : arMvX (arAlE x x.fr.dropLast (j + 1)) ((j : Int) + 1) 2 = _ := c2
  rw [show ((j + 1 : Nat) : Int) = (j : Int) + 1 by omega, c2]
  refine ⟨c1, ?_⟩
  simp only [arAlE, Nat.add_sub_cancel, List.set_set]
  have hfresh : ∀ e ∈ L, e.2.1 ≠ (j : Int) + 1 := fun e he q => by
    obtain ⟨i, p1, p2, p3, p4⟩ := h.live e he
    obtain rfl : i = j := by omega
    rw [h0] at p3
    cases p3
  refine ⟨fun e he => ?_, fun e he e' he' hee => ?_, fun p hp => ?_, ?_, ?_⟩
  · simp only [List.length_set]
    rcases insI_mem.1 he with rfl | he
    · exact ⟨j, rfl, hj, by rw [getD_set, if_pos ⟨rfl, hj⟩], rfl⟩
    · obtain ⟨i, p1, p2, p3, p4⟩ := h.live e he
      refine ⟨i, p1, p2, ?_, p4⟩
      rw [getD_set]
      split
      · rfl
      · exact p3
  · rcases insI_mem.1 he with rfl | he
    · rcases insI_mem.1 he' with rfl | he'
      · rfl
      · exact (hfresh e' he' hee.symm).elim
    · rcases insI_mem.1 he' with rfl | he'
      · exact (hfresh e he hee).elim
      · exact h.inj e he e' he' hee
  · simp only [List.length_set]
    exact h.old p hp
  · have hc := h.c2
    simp only
    rw [insI_len, count_set _ hj, h0, if_neg (by decide), if_pos rfl]
    omega
  · have hc := h.c0
    have hp := count_pos_at x.st hj
    rw [h0] at hp
    simp only [List.length_set]
    rw [insI_len, count_set _ hj, h0, if_pos rfl, if_neg (by decide)]
    omega
theorem Stl.no (h : Stl x L T) (hb : alB x = false) : Stl (alX x) L T := by
  rcases al_cases x with ⟨_, e, _⟩ | ⟨F, s, _, _, _, _, e⟩
  · rw [e]; exact h
  · rw [e] at hb; cases hb
/-- What a round asks of each id. -/
theorem Stl.told (h : Stl x L T) {e : EntI} (he : e ∈ L) : arSt x e.2.1 = 2 ∧ arGn x e.2.1 = e.2.2 ∧ ∀ p ∈ T, ¬ (e.2.1 = p.1 ∧ e.2.2 = (p.2 : Int)) := by
  obtain ⟨j, p1, p2, p3, p4⟩ := h.live e he
  rw [p1, arSt_in p2, arGn_in p2, p3, p4]
  refine ⟨rfl, rfl, fun p hp q => ?_⟩
  obtain ⟨i, q1, q2, q3⟩ := h.old p hp
  obtain rfl : i = j := by omega
  omega
theorem Stl.apart (h : Stl x L T) (hr : RiseI L) {i j : Nat} (hij : i < j) (hj : j < L.length) : (L[i]'(by omega)).2.1 ≠ (L[j]).2.1 := fun e => by
  have h1 := h.inj _ (List.getElem_mem (h := by omega)) _ (List.getElem_mem (h := hj)) e
  have h2 := List.pairwise_iff_getElem.1 hr i j (by omega) hj hij
  rw [h1] at h2
  omega
end

end Go.Proofs.Ytoaikdnooafjmaa
