/- Nothing is freed that was retired while a worker was pinned that is pinned still (plain). -/
import Derived.Test.YtgfcpjkihbaapaaEpPin
namespace Go.Proofs.Ytgfcpjkihbaapaa

/-- The law's own books beside a clock: since when each worker is pinned; the slots that are retired, and when. -/
structure EI (N now : Nat) (x : EX) (ps : Nat → Int) (S T : List Int) : Prop where
  len : x.rc.length = N
  s : S = x.lb.map (·.1)
  t : T.length = S.length
  tl : ∀ z ∈ T, z ≤ (now : Int)
  p0 : ∀ i, i < N → (ps i = 0 ↔ x.rc.getD i 0 = 0)
  pb : ∀ i, i < N → 0 ≤ ps i ∧ ps i ≤ (now : Int)
  pi : ∀ i, i < N → ps i ≠ 0 → ∃ e0, PinI x i e0 ∧ ∀ (j : Nat) (t : Int) (p : Int × Nat), T[j]? = some t → x.lb[j]? = some p → ps i < t → e0 ≤ p.2
def updP (ps : Nat → Int) (k : Nat) (v : Int) : Nat → Int := fun i => if i = k then v else ps i
section
variable {N n now : Nat} {x : EX} {ps : Nat → Int} {S T : List Int}
theorem EI.new (N : Nat) : EI N 0 (newE N) (fun _ => 0) [] [] where
  len := by simp [newE]
  s := rfl
  t := rfl
  tl := fun z hz => by cases hz
  p0 := fun i _ => ⟨fun _ => NoPin.new N i, fun _ => rfl⟩
  pb := fun i _ => ⟨Int.le_refl _, Int.natCast_nonneg _⟩
  pi := fun i _ h => absurd rfl h
theorem EI.more (h : EI N now x ps S T) : EI N (now + 1) x ps S T :=
  { h with tl := fun z hz => by have := h.tl z hz; omega, pb := fun i hi => by have := h.pb i hi; omega }
theorem EI.load (h : EI N now x ps S T) (v : Int) : EI N now (loadX x v) ps S T := by
  unfold loadX
  split
  · exact ⟨h.len, h.s, h.t, h.tl, h.p0, h.pb, fun i hi hp => let ⟨e0, h1, h2⟩ := h.pi i hi hp; ⟨e0, h1.same rfl rfl rfl rfl, h2⟩⟩
  · exact h
theorem EI.has (h : EI N now x ps S T) {v : Int} (hv : hasE x v = true) : ∃ q : Nat, v = (q : Int) ∧ q < N := by
  have := of_decide_eq_true (show decide (0 ≤ v ∧ v < (x.rc.length : Int)) = true from hv)
  have hl := h.len
  exact ⟨v.toNat, by omega, by omega⟩
theorem EI.pin (h : EI N now x ps S T) (hf : EFit n x) {v : Int} (hv : pinB x v = true) : ∃ q : Nat, v = (q : Int) ∧ q < N ∧ ps q = 0 ∧ EI N (now + 1) (pinX x v) (updP ps q ((now : Int) + 1)) S T := by
  have hv' := hv
  unfold pinB at hv'
  rw [Bool.and_eq_true] at hv'
  obtain ⟨q, rfl, hq⟩ := h.has hv'.1
  have hr : x.rc.getD q 0 = 0 := by simpa using hv'.2
  have hql : q < x.rc.length := by rw [h.len]; exact hq
  refine ⟨q, rfl, hq, (h.p0 q hq).2 hr, ?_⟩
  unfold pinX
  rw [if_pos hv, Int.toNat_natCast]
  have hl : (x.rc.set q (x.ld.getD q 0 + 1)).length = x.rc.length := List.length_set
  have hg : ∀ i, i ≠ q → (pinE x q).rc.getD i 0 = x.rc.getD i 0 := fun i hi => by
    show (x.rc.set q _).getD i 0 = _
    rw [getD_set, if_neg (fun e => hi e.1)]
  have hgq : (pinE x q).rc.getD q 0 = x.ld.getD q 0 + 1 := by
    show (x.rc.set q _).getD q 0 = _
    rw [getD_set, if_pos ⟨rfl, hql⟩]
  refine ⟨hl.trans h.len, h.s, h.t, fun z hz => by have := h.tl z hz; omega, fun i hi => ?_, fun i hi => ?_, fun i hi hp => ?_⟩
  · unfold updP
    by_cases e : i = q
    · rw [if_pos e, e, hgq]
      constructor <;> intro <;> omega
    · rw [if_neg e, hg i e]
      exact h.p0 i hi
  · unfold updP
    have := h.pb i hi
    split <;> omega
  · unfold updP at hp ⊢
    by_cases e : i = q
    · subst e
      rw [if_pos rfl]
      refine ⟨x.e, PinI.start hf hql, fun j t p ht _ hlt => ?_⟩
      have := h.tl t (List.mem_of_getElem? ht)
      omega
    · rw [if_neg e] at hp ⊢
      obtain ⟨e0, h1, h2⟩ := h.pi i hi hp
      exact ⟨e0, h1.same hl (hg i e) rfl rfl, h2⟩
theorem EI.pinNot (h : EI N now x ps S T) {v : Int} (hv : pinB x v = false) : EI N (now + 1) (pinX x v) ps S T := by
  unfold pinX
  rw [if_neg (by rw [hv]; decide)]
  exact h.more
theorem EI.unpin (h : EI N now x ps S T) {v : Int} (hv : unpinB x v = true) : ∃ q : Nat, v = (q : Int) ∧ q < N ∧ ps q ≠ 0 ∧ EI N (now + 1) (unpinX x v) (updP ps q 0) S T := by
  have hv' := hv
  unfold unpinB at hv'
  rw [Bool.and_eq_true] at hv'
  obtain ⟨q, rfl, hq⟩ := h.has hv'.1
  have hr : x.rc.getD q 0 ≠ 0 := by simpa using hv'.2
  have hql : q < x.rc.length := by rw [h.len]; exact hq
  refine ⟨q, rfl, hq, fun e => hr ((h.p0 q hq).1 e), ?_⟩
  unfold unpinX
  rw [if_pos hv, Int.toNat_natCast]
  have hl : (x.rc.set q 0).length = x.rc.length := List.length_set
  have hg : ∀ i, i ≠ q → (unpinE x q).rc.getD i 0 = x.rc.getD i 0 := fun i hi => by
    show (x.rc.set q _).getD i 0 = _
    rw [getD_set, if_neg (fun e => hi e.1)]
  have hgq : (unpinE x q).rc.getD q 0 = 0 := by
    show (x.rc.set q _).getD q 0 = _
    rw [getD_set, if_pos ⟨rfl, hql⟩]
  refine ⟨hl.trans h.len, h.s, h.t, fun z hz => by have := h.tl z hz; omega, fun i hi => ?_, fun i hi => ?_, fun i hi hp => ?_⟩
  · unfold updP
    by_cases e : i = q
    · rw [if_pos e, e, hgq]
      exact ⟨fun _ => rfl, fun _ => rfl⟩
    · rw [if_neg e, hg i e]
      exact h.p0 i hi
  · unfold updP
    have := h.pb i hi
    split <;> omega
  · unfold updP at hp ⊢
    by_cases e : i = q
    · rw [if_pos e] at hp
      exact absurd rfl hp
    · rw [if_neg e] at hp ⊢
      obtain ⟨e0, h1, h2⟩ := h.pi i hi hp
      exact ⟨e0, h1.same hl (hg i e) rfl rfl, h2⟩
theorem EI.unpinNot (h : EI N now x ps S T) {v : Int} (hv : unpinB x v = false) : EI N (now + 1) (unpinX x v) ps S T := by
  unfold unpinX
  rw [if_neg (by rw [hv]; decide)]
  exact h.more
theorem EI.ret (h : EI N now x ps S T) {v : Int} (hv : isRet x v = false) : EI N (now + 1) (retX x v) ps (S ++ [v]) (T ++ [(now : Int) + 1]) := by
  unfold retX
  rw [if_neg (by rw [hv]; decide)]
  have hTl : T.length = x.lb.length := by rw [h.t, h.s, List.length_map]
  refine ⟨h.len, ?_, by rw [List.length_append, List.length_append, h.t]; rfl, fun z hz => ?_, h.p0, fun i hi => by have := h.pb i hi; omega, fun i hi hp => ?_⟩
  · show S ++ [v] = (x.lb ++ [(v, x.e)]).map (·.1)
    rw [List.map_append, h.s]
    rfl
  · rcases List.mem_append.1 hz with hz | hz
    · have := h.tl z hz; omega
    · rw [List.mem_singleton.1 hz]; omega
  · obtain ⟨e0, h1, h2⟩ := h.pi i hi hp
    refine ⟨e0, h1.same rfl rfl rfl rfl, fun j t p ht hp2 hlt => ?_⟩
    rcases Nat.lt_or_ge j T.length with hj | hj
    · rw [List.getElem?_append_left hj] at ht
      have hp3 : (x.lb ++ [(v, x.e)])[j]? = some p := hp2
      rw [List.getElem?_append_left (by omega)] at hp3
      exact h2 j t p ht hp3 hlt
    · have hp3 : (x.lb ++ [(v, x.e)])[j]? = some p := hp2
      rw [List.getElem?_append_right (by omega)] at hp3
      have hj0 : j - x.lb.length = 0 := by
        have := (List.getElem?_eq_some_iff.1 hp3).1
        simpa using this
      rw [hj0] at hp3
      injection hp3 with hp3
      rw [← hp3]
      exact h1.lo
theorem EI.retNot (h : EI N now x ps S T) {v : Int} (hv : isRet x v = true) : EI N (now + 1) (retX x v) ps S T := by
  unfold retX
  rw [if_pos hv]
  exact h.more
theorem EI.look (h : EI N now x ps S T) : EI N now (lookE x) ps S T := by
  refine ⟨(look_len x).trans h.len, by rw [look_lb]; exact h.s, h.t, h.tl, fun i hi => by rw [look_rc]; exact h.p0 i hi, h.pb, fun i hi hp => ?_⟩
  obtain ⟨e0, h1, h2⟩ := h.pi i hi hp
  exact ⟨e0, h1.look, fun j t p ht hp2 => by rw [look_lb] at hp2; exact h2 j t p ht hp2⟩
/-- What is freed stands ahead in the law's list, and none of it was retired behind a pin that lasts. -/
theorem EI.free (h : EI N now x ps S T) : ∃ l S' T0 T', l = (freeL1 x).length ∧ S = (freeL1 x).map (·.1) ++ S' ∧ T = T0 ++ T' ∧ T0.length = l ∧ EI N now (freeE x) ps S' T' ∧ ∀ t ∈ T0, ∀ i, i < N → ¬ (0 < ps i ∧ ps i < t) := by
  have hp := free_parts x
  have hTl : T.length = x.lb.length := by rw [h.t, h.s, List.length_map]
  have hll : (freeL1 x).length ≤ x.lb.length := by
    have := congrArg List.length hp
    rw [List.length_append] at this
    omega
  have hT0 : (T.take (freeL1 x).length).length = (freeL1 x).length := by rw [List.length_take]; omega
  have hdrop : (freeE x).lb = x.lb.drop (freeL1 x).length := by rw [← hp, List.drop_left]
  have hget : ∀ j p, (freeL1 x)[j]? = some p → x.lb[j]? = some p := fun j p hj => by
    rw [← hp, List.getElem?_append_left (List.getElem?_eq_some_iff.1 hj).1]
    exact hj
  refine ⟨_, (freeE x).lb.map (·.1), T.take (freeL1 x).length, T.drop (freeL1 x).length, rfl, ?_, (List.take_append_drop _ _).symm, hT0, ?_, fun t ht i hi hlt => ?_⟩
  · rw [← List.map_append, hp]
    exact h.s
  · refine ⟨h.len, rfl, ?_, fun z hz => h.tl z (List.mem_of_mem_drop hz), h.p0, h.pb, fun i hi hpi => ?_⟩
    · rw [List.length_drop, List.length_map, hdrop, List.length_drop]
      omega
    · obtain ⟨e0, h1, h2⟩ := h.pi i hi hpi
      refine ⟨e0, h1.same rfl rfl rfl rfl, fun j t p ht hp2 hlt => ?_⟩
      rw [List.getElem?_drop] at ht
      rw [hdrop, List.getElem?_drop] at hp2
      exact h2 _ t p ht hp2 hlt
  · obtain ⟨j, hj⟩ := List.getElem?_of_mem ht
    have hjl : j < (freeL1 x).length := by
      have := (List.getElem?_eq_some_iff.1 hj).1
      omega
    obtain ⟨p, hpj⟩ : ∃ p, (freeL1 x)[j]? = some p := ⟨_, List.getElem?_eq_getElem hjl⟩
    rw [List.getElem?_take_of_lt hjl] at hj
    obtain ⟨e0, h1, h2⟩ := h.pi i hi (by omega)
    have hn := h1.not_ripe (h2 j t p hj (hget j p hpj) hlt.2)
    have hy : ripe x.e p = true := List.all_eq_true.1 List.all_takeWhile p (List.mem_of_getElem? hpj)
    rw [hn] at hy
    cases hy
/-- Behind the end: first all are unpinned, one by one. -/
structure EU (N i : Nat) (x : EX) (S : List Int) : Prop where
  len : x.rc.length = N
  s : S = x.lb.map (·.1)
  un : ∀ j, j < i → x.rc.getD j 0 = 0
theorem EI.ends (h : EI N now x ps S T) : EU N 0 x S := ⟨h.len, h.s, fun j hj => absurd hj (Nat.not_lt_zero j)⟩
theorem EU.step {i : Nat} (h : EU N i x S) (hi : i < N) : EU N (i + 1) (unpinX x (i : Int)) S := by
  have hh : hasE x (i : Int) = true := decide_eq_true ⟨by omega, by rw [h.len]; omega⟩
  unfold unpinX
  split
  · rw [Int.toNat_natCast]
    refine ⟨List.length_set.trans h.len, h.s, fun j hj => ?_⟩
    show (x.rc.set i 0).getD j 0 = 0
    rw [getD_set]
    split
    · rfl
    · rename_i hne
      exact h.un j (by rw [h.len] at hne; omega)
  · rename_i hb
    refine ⟨h.len, h.s, fun j hj => ?_⟩
    by_cases e : j = i
    · subst e
      unfold unpinB at hb
      rw [hh, Bool.true_and, Int.toNat_natCast] at hb
      simpa using hb
    · exact h.un j (by omega)
theorem EU.none (h : EU N N x S) : NoPin x := fun k => by
  rcases Nat.lt_or_ge k N with hk | hk
  · exact h.un k hk
  · rw [List.getD_eq_getElem?_getD, List.getElem?_eq_none (by rw [h.len]; exact hk)]
    rfl
/-- .. then it looks. -/
structure EL (N : Nat) (x0 : EX) (j : Nat) (x : EX) (S : List Int) : Prop where
  np : NoPin x
  len : x.rc.length = N
  len0 : x0.rc.length = N
  s : S = x.lb.map (·.1)
  far : farE x = farE x0 + j
  gn : ∀ p ∈ x.lb, p.2 ≤ x0.e
theorem EU.looks (h : EU N N x S) (hf : EFit n x) : EL N x 0 x S := ⟨h.none, h.len, h.len, h.s, rfl, hf.gn⟩
theorem EL.look {x0 : EX} {j : Nat} (h : EL N x0 j x S) (hl : x.lk < x.rc.length) : EL N x0 (j + 1) (lookE x) S :=
  ⟨h.np.look, (look_len x).trans h.len, h.len0, by rw [look_lb]; exact h.s, by rw [h.np.far hl, h.far]; rfl, by rw [look_lb]; exact h.gn⟩
theorem EL.free {x0 : EX} (h : EL N x0 (4 * N) x S) (hf : EFit n x) : (freeL1 x).map (·.1) = S ∧ (freeE x).lb = [] := by
  have h4 := far_four (x := x0) (y := x) (h.len.trans h.len0.symm) hf.lk (by rw [h.far, h.len0])
  have hall := freeE_all (x := x) fun p hp => by
    have := h.gn p hp
    unfold ripe
    rw [decide_eq_true_iff]
    omega
  exact ⟨by rw [hall.1]; exact h.s.symm, hall.2⟩
end

end Go.Proofs.Ytgfcpjkihbaapaa
