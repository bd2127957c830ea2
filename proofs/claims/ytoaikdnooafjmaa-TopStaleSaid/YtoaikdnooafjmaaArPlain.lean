/- Plain mathematics of arenas: states, generations, those that are free. -/
import Derived.Test.YtoaikdnooafjmaaEpPlain
namespace Go.Proofs.Ytoaikdnooafjmaa

/-- An arena: the states and generations of its slots (the first one is slot 1), and those that are free, the next one last. -/
structure AR where
  st : List Nat
  gn : List Nat
  fr : List Nat
/-- So many slots, from k on downwards. -/
def downL (k j : Nat) : List Nat := (List.range j).map fun i => k - i
theorem downL_succ (k j : Nat) : downL k (j + 1) = downL k j ++ [k - j] := by simp [downL, List.range_succ]
theorem downL_len (k j : Nat) : (downL k j).length = j := by simp [downL]
def arNew (k : Nat) : AR := ⟨List.replicate k 0, List.replicate k 0, downL k k⟩
def arHas (x : AR) (v : Int) : Bool := decide (1 ≤ v ∧ v ≤ (x.st.length : Int))
def arSt (x : AR) (v : Int) : Int := if arHas x v = true then ((x.st.getD (v.toNat - 1) 0 : Nat) : Int) else -1
def arGn (x : AR) (v : Int) : Int := if arHas x v = true then ((x.gn.getD (v.toNat - 1) 0 : Nat) : Int) else -1
def arCnt (x : AR) (v : Int) : Int := if 0 ≤ v ∧ v < 5 then ((x.st.count v.toNat : Nat) : Int) else 0
/-- Does to come just behind f, on a slot's way? -/
def arNext (f to : Int) : Bool := decide ((f = 1 ∧ to = 2) ∨ (f = 2 ∧ to = 3) ∨ (f = 3 ∧ to = 4))
def arMvB (x : AR) (v to : Int) : Bool := arNext (arSt x v) to
def arMvX (x : AR) (v to : Int) : AR := if arMvB x v to = true then { x with st := x.st.set (v.toNat - 1) to.toNat } else x
def arFrB (x : AR) (v : Int) : Bool := decide (arSt x v = 1 ∨ arSt x v = 4)
def arFrE (x : AR) (k : Nat) : AR := ⟨x.st.set k 0, x.gn.set k (x.gn.getD k 0 + 1), x.fr ++ [k + 1]⟩
def arFrX (x : AR) (v : Int) : AR := if arFrB x v = true then arFrE x (v.toNat - 1) else x
def arAlE (x : AR) (F : List Nat) (s : Nat) : AR := ⟨x.st.set (s - 1) 1, x.gn, F⟩

theorem count_set (L : List Nat) {k : Nat} (hk : k < L.length) (v j : Nat) : (L.set k v).count j = L.count j - (if L.getD k 0 = j then 1 else 0) + (if v = j then 1 else 0) := by
  rw [List.count_set (h := hk), List.getD_eq_getElem?_getD, List.getElem?_eq_getElem hk]
  simp only [Option.getD_some, beq_iff_eq]
theorem count_pos_at (L : List Nat) {k : Nat} (hk : k < L.length) : 1 ≤ L.count (L.getD k 0) := by
  rw [List.getD_eq_getElem?_getD, List.getElem?_eq_getElem hk]
  exact List.one_le_count_iff.2 (List.getElem_mem hk)

/-- An arena as it may be, behind n deeds at most. -/
structure AFit (n : Nat) (x : AR) : Prop where
  len : x.gn.length = x.st.length
  pos : 1 ≤ x.st.length
  few : x.st.length ≤ 4096
  s4 : ∀ k, x.st.getD k 0 ≤ 4
  gb : ∀ k, x.gn.getD k 0 ≤ n
  fin : ∀ s ∈ x.fr, 1 ≤ s ∧ s ≤ x.st.length ∧ x.st.getD (s - 1) 0 = 0
  nd : x.fr.Nodup
  cn : x.fr.length = x.st.count 0
theorem count_rep (k j : Nat) : (List.replicate k 0).count j = if j = 0 then k else 0 := by
  rw [List.count_replicate]
  by_cases h : j = 0
  · subst h; rfl
  · rw [if_neg h, if_neg (by simpa using fun e => h e.symm)]
theorem downL_mem {k j s : Nat} (h : s ∈ downL k j) : ∃ i, i < j ∧ s = k - i := by
  obtain ⟨i, hi, e⟩ := List.mem_map.1 h
  exact ⟨i, List.mem_range.1 hi, e.symm⟩
theorem downL_nodup (k : Nat) : ∀ j, j ≤ k → (downL k j).Nodup
  | 0, _ => by simp [downL]
  | j + 1, h => by
    rw [downL_succ, List.nodup_append]
    refine ⟨downL_nodup k j (by omega), by simp, fun a ha b hb e => ?_⟩
    obtain ⟨i, hi, e2⟩ := downL_mem ha
    rw [List.mem_singleton.1 hb] at e
    omega
theorem AFit.new {k : Nat} (h1 : 1 ≤ k) (h2 : k ≤ 4096) : AFit 0 (arNew k) := by
  refine ⟨by simp [arNew], by simpa [arNew] using h1, by simpa [arNew] using h2, fun j => by rw [arNew, getD_rep]; omega, fun j => by rw [arNew, getD_rep]; omega, fun s hs => ?_, downL_nodup k k (Nat.le_refl _), ?_⟩
  · obtain ⟨i, hi, e⟩ := downL_mem hs
    refine ⟨by omega, ?_, by rw [arNew, getD_rep]⟩
    show s ≤ (List.replicate k 0).length
    rw [List.length_replicate]
    omega
  · simp only [arNew]
    rw [downL_len, count_rep, if_pos rfl]
section
variable {n m : Nat} {x : AR}
theorem AFit.more (h : AFit n x) (hm : n ≤ m) : AFit m x := { h with gb := fun k => Nat.le_trans (h.gb k) hm }
theorem AFit.frl (h : AFit n x) : x.fr.length ≤ 4096 := by
  rw [h.cn]
  exact Nat.le_trans List.count_le_length h.few
theorem arHas_nat {v : Int} (h : arHas x v = true) : ∃ k : Nat, v = (k : Int) + 1 ∧ k < x.st.length := by
  have := of_decide_eq_true h
  exact ⟨v.toNat - 1, by omega, by omega⟩
theorem arHas_in {k : Nat} (hk : k < x.st.length) : arHas x ((k : Int) + 1) = true := decide_eq_true (by omega)
theorem arSt_in {k : Nat} (hk : k < x.st.length) : arSt x ((k : Int) + 1) = ((x.st.getD k 0 : Nat) : Int) := by
  unfold arSt
  rw [if_pos (arHas_in hk)]
  rfl
theorem arGn_in {k : Nat} (hk : k < x.st.length) : arGn x ((k : Int) + 1) = ((x.gn.getD k 0 : Nat) : Int) := by
  unfold arGn
  rw [if_pos (arHas_in hk)]
  rfl
theorem AFit.alloc (h : AFit n x) {F : List Nat} {s : Nat} (hf : x.fr = F ++ [s]) : AFit n (arAlE x F s) := by
  have hs := h.fin s (by rw [hf]; simp)
  have hk : s - 1 < x.st.length := by omega
  have hnd := h.nd
  rw [hf, List.nodup_append] at hnd
  refine ⟨by simp only [arAlE, List.length_set]; exact h.len, by simp only [arAlE, List.length_set]; exact h.pos, by simp only [arAlE, List.length_set]; exact h.few, fun j => ?_, h.gb, fun t ht => ?_, hnd.1, ?_⟩
  · simp only [arAlE]
    rw [getD_set]
    split
    · omega
    · exact h.s4 j
  · have h2 := h.fin t (by rw [hf]; exact List.mem_append.2 (.inl ht))
    have hne : t ≠ s := fun e => hnd.2.2 t ht s (by simp) e
    simp only [arAlE, List.length_set]
    rw [getD_set, if_neg (fun e => hne (by omega))]
    exact h2
  · simp only [arAlE]
    rw [count_set _ hk, hs.2.2, if_pos rfl, if_neg (by decide), ← h.cn, hf]
    simp
theorem AFit.move (h : AFit n x) {k t : Nat} (hk : k < x.st.length) (h0 : x.st.getD k 0 ≠ 0) (ht : 1 ≤ t) (ht4 : t ≤ 4) : AFit n { x with st := x.st.set k t } := by
  refine ⟨by simp only [List.length_set]; exact h.len, by simp only [List.length_set]; exact h.pos, by simp only [List.length_set]; exact h.few, fun j => ?_, h.gb, fun s hs => ?_, h.nd, ?_⟩
  · simp only
    rw [getD_set]
    split
    · omega
    · exact h.s4 j
  · have h2 := h.fin s hs
    simp only [List.length_set]
    rw [getD_set, if_neg (fun e => h0 (by rw [← e.1]; exact h2.2.2))]
    exact h2
  · simp only
    rw [count_set _ hk, if_neg h0, if_neg (by omega), h.cn]
    omega
theorem AFit.free (h : AFit n x) {k : Nat} (hk : k < x.st.length) (h0 : x.st.getD k 0 ≠ 0) : AFit (n + 1) (arFrE x k) := by
  refine ⟨by simp only [arFrE, List.length_set]; exact h.len, by simp only [arFrE, List.length_set]; exact h.pos, by simp only [arFrE, List.length_set]; exact h.few, fun j => ?_, fun j => ?_, fun s hs => ?_, ?_, ?_⟩
  · simp only [arFrE]
    rw [getD_set]
    split
    · omega
    · exact h.s4 j
  · simp only [arFrE]
    rw [getD_set]
    have := h.gb k
    have := h.gb j
    split <;> omega
  · simp only [arFrE, List.length_set] at *
    rw [getD_set]
    rcases List.mem_append.1 hs with hs | hs
    · have h2 := h.fin s hs
      refine ⟨h2.1, h2.2.1, ?_⟩
      split
      · rfl
      · exact h2.2.2
    · rw [List.mem_singleton.1 hs]
      refine ⟨by omega, by omega, ?_⟩
      rw [if_pos ⟨by omega, hk⟩]
  · simp only [arFrE]
    rw [List.nodup_append]
    refine ⟨h.nd, by simp, fun a ha b hb e => ?_⟩
    rw [List.mem_singleton.1 hb] at e
    have h2 := h.fin a ha
    rw [e] at h2
    exact h0 h2.2.2
  · simp only [arFrE]
    rw [count_set _ hk, if_neg h0, if_pos rfl, List.length_append, h.cn]
    rfl
/-- A move that is to be, in numbers. -/
theorem arMv_nat {v to : Int} (h : arMvB x v to = true) : ∃ k t : Nat, v = (k : Int) + 1 ∧ k < x.st.length ∧ to = (t : Int) ∧ 2 ≤ t ∧ t ≤ 4 ∧ x.st.getD k 0 + 1 = t ∧ arMvX x v to = { x with st := x.st.set k t } := by
  have h1 := of_decide_eq_true (show decide _ = true from h)
  have hh : arHas x v = true := by
    rcases hx : arHas x v with _ | _
    · unfold arSt at h1
      rw [hx] at h1
      simp at h1
    · rfl
  obtain ⟨k, rfl, hk⟩ := arHas_nat hh
  rw [arSt_in hk] at h1
  refine ⟨k, to.toNat, rfl, hk, by omega, by omega, by omega, by omega, ?_⟩
  unfold arMvX
  rw [if_pos h]
  rfl
theorem arFr_nat {v : Int} (h : arFrB x v = true) : ∃ k : Nat, v = (k : Int) + 1 ∧ k < x.st.length ∧ (x.st.getD k 0 = 1 ∨ x.st.getD k 0 = 4) ∧ arFrX x v = arFrE x k := by
  have h1 := of_decide_eq_true (show decide _ = true from h)
  have hh : arHas x v = true := by
    rcases hx : arHas x v with _ | _
    · unfold arSt at h1
      rw [hx] at h1
      simp at h1
    · rfl
  obtain ⟨k, rfl, hk⟩ := arHas_nat hh
  rw [arSt_in hk] at h1
  refine ⟨k, rfl, hk, by omega, ?_⟩
  unfold arFrX
  rw [if_pos h]
  rfl
theorem AFit.moveX (h : AFit n x) (v to : Int) : AFit n (arMvX x v to) := by
  cases hb : arMvB x v to with
  | false => unfold arMvX; rw [hb]; exact h
  | true =>
    obtain ⟨k, t, rfl, hk, rfl, ht, ht4, hg, hx⟩ := arMv_nat hb
    rw [hx]
    exact h.move hk (by omega) (by omega) ht4
theorem AFit.freeX (h : AFit n x) (v : Int) : AFit (n + 1) (arFrX x v) := by
  cases hb : arFrB x v with
  | false => unfold arFrX; rw [hb]; exact h.more (by omega)
  | true =>
    obtain ⟨k, rfl, hk, hg, hx⟩ := arFr_nat hb
    rw [hx]
    exact h.free hk (by omega)
end

end Go.Proofs.Ytoaikdnooafjmaa
