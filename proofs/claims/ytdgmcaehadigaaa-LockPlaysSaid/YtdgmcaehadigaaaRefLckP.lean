/- What the document says of mutexes (ganglionref19), step by step: plain mathematics. -/
import Derived.Test.YtdgmcaehadigaaaLckPlain
namespace Go.Proofs.Ytdgmcaehadigaaa

theorem find_take_none {p : PrT → Bool} {L : List PrT} {k : Nat} {z : PrT} (h : (L.take k).find? p = none) (hz : L[k]? = some z) (hn : p z = false) : (L.take (k + 1)).find? p = none := by
  rw [List.take_add_one, hz, List.find?_append, h]
  simp [hn]
theorem find_take_some {p : PrT → Bool} {L : List PrT} {k : Nat} {z : PrT} (h : (L.take k).find? p = none) (hz : L[k]? = some z) (hp : p z = true) : L.find? p = some z := by
  have hL : L = L.take (k + 1) ++ L.drop (k + 1) := (List.take_append_drop _ _).symm
  rw [hL, List.find?_append, List.take_add_one, hz, List.find?_append, h]
  simp [hp]
/-- None of the first k is the one that is sought. -/
def NoN (L : List PrT) (n : Int) (k : Nat) : Prop := (L.take k).find? (fun p => p.1 == n) = none
def NoW (L : List PrT) (w : Int) (k : Nat) : Prop := (L.take k).find? (fun p => p.2 == w) = none
theorem NoN.zero (L : List PrT) (n : Int) : NoN L n 0 := rfl
theorem NoW.zero (L : List PrT) (n : Int) : NoW L n 0 := rfl
theorem NoN.step {L : List PrT} {n : Int} {k : Nat} {z : PrT} (h : NoN L n k) (hz : L[k]? = some z) (hn : z.1 ≠ n) : NoN L n (k + 1) := find_take_none h hz (by simpa using hn)
theorem NoW.step {L : List PrT} {n : Int} {k : Nat} {z : PrT} (h : NoW L n k) (hz : L[k]? = some z) (hn : z.2 ≠ n) : NoW L n (k + 1) := find_take_none h hz (by simpa using hn)
theorem NoN.found {L : List PrT} {n : Int} {k : Nat} {z : PrT} (h : NoN L n k) (hz : L[k]? = some z) (hn : z.1 = n) : hold L n = some z.2 := by
  unfold hold
  rw [find_take_some h hz (by simpa using hn)]
  rfl
theorem NoW.found {L : List PrT} {n : Int} {k : Nat} {z : PrT} (h : NoW L n k) (hz : L[k]? = some z) (hn : z.2 = n) : waitOf L n = some z.1 := by
  unfold waitOf
  rw [find_take_some h hz (by simpa using hn)]
  rfl
theorem NoN.all {L : List PrT} {n : Int} (h : NoN L n L.length) : hold L n = none := by
  unfold NoN at h
  rw [List.take_length] at h
  unfold hold
  rw [h]
  rfl
theorem NoW.all {L : List PrT} {n : Int} (h : NoW L n L.length) : waitOf L n = none := by
  unfold NoW at h
  rw [List.take_length] at h
  unfold waitOf
  rw [h]
  rfl
/-- What is told of who holds a mutex, and of what one waits for. -/
def gotI (o : Option Int) : Int := o.getD 0
def gotB (o : Option Int) : Bool := o.isSome
theorem rest_take {L : List PrT} {w : Int} {k : Nat} {z : PrT} (hz : L[k]? = some z) : restL (L.take (k + 1)) w = restL (L.take k) w ++ (if z.2 = w then [] else [z]) := by
  unfold restL
  rw [List.take_add_one, hz, List.filter_append]
  by_cases e : z.2 = w
  · simp [e]
  · simp [e]
theorem free_take {L : List PrT} {w : Int} {k : Nat} {z : PrT} (hz : L[k]? = some z) : freeL (L.take (k + 1)) w = freeL (L.take k) w ++ (if z.1 = w then [] else [z]) := by
  unfold freeL
  rw [List.take_add_one, hz, List.filter_append]
  by_cases e : z.1 = w
  · simp [e]
  · simp [e]
theorem rest_len (L : List PrT) (w : Int) (k : Nat) : (restL (L.take k) w).length ≤ k := by
  unfold restL
  have h1 := List.length_filter_le (fun p : PrT => p.2 != w) (L.take k)
  rw [List.length_take] at h1
  omega
theorem free_len (L : List PrT) (w : Int) (k : Nat) : (freeL (L.take k) w).length ≤ k := by
  unfold freeL
  have h1 := List.length_filter_le (fun p : PrT => p.1 != w) (L.take k)
  rw [List.length_take] at h1
  omega
theorem heldTo_len (L : List PrT) (w : Int) (k : Nat) : (heldTo L w k).length ≤ k := by
  unfold heldTo
  refine Nat.le_trans (List.length_filter_le _ _) ?_
  rw [List.length_map, List.length_range]
  exact Nat.le_refl _
/-- Not above all that is held, just if one held is no less. -/
theorem above_held {x : LX} (hx : LFit x) (n w : Int) : (!(x.up && aboveB x.hs n w)) = ((!x.up) || (heldL x.hs w).any fun m => decide (n ≤ m)) := by
  have h : aboveB x.hs n w = !((heldL x.hs w).any fun m => decide (n ≤ m)) := by
    cases ha : aboveB x.hs n w with
    | true =>
      symm
      rw [Bool.not_eq_true', List.any_eq_false]
      intro m hm
      have h1 := above_lt ha (hold_some ((heldL_mem hx).1 hm))
      simp
      omega
    | false =>
      symm
      rw [Bool.not_eq_false', List.any_eq_true]
      unfold aboveB at ha
      rw [List.all_eq_false] at ha
      obtain ⟨p, hp, hp2⟩ := ha
      simp only [Bool.not_eq_true, Bool.not_eq_false', Bool.and_eq_true, beq_iff_eq, decide_eq_true_eq] at hp2
      refine ⟨p.1, (heldL_mem hx).2 (hx.one _ _ ?_), by simpa using hp2.2⟩
      rw [← hp2.1]
      exact hp
  rw [h]
  cases x.up <;> simp
end Go.Proofs.Ytdgmcaehadigaaa
