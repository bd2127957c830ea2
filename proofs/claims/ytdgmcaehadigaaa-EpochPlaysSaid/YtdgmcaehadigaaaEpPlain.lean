/- Plain mathematics of epochs: what a clock tells; that nothing that was retired behind a pin is freed as long as it lasts. -/
import Derived.Test.YtdgmcaehadigaaaMem
namespace Go.Proofs.Ytdgmcaehadigaaa

/-- A clock: the epoch; what each worker loaded; the records; what is retired, each with its epoch; at how many was looked. -/
structure EX where
  e : Nat
  ld : List Nat
  rc : List Nat
  lb : List (Int × Nat)
  lk : Nat
deriving DecidableEq
def newE (n : Nat) : EX := ⟨0, List.replicate n 0, List.replicate n 0, [], 0⟩
def hasE (x : EX) (w : Int) : Bool := decide (0 ≤ w ∧ w < (x.rc.length : Int))
def loadE (x : EX) (k : Nat) : EX := { x with ld := x.ld.set k x.e }
def pinE (x : EX) (k : Nat) : EX := { x with rc := x.rc.set k (x.ld.getD k 0 + 1) }
def unpinE (x : EX) (k : Nat) : EX := { x with rc := x.rc.set k 0 }
def isRet (x : EX) (s : Int) : Bool := x.lb.any fun p => p.1 == s
def retE (x : EX) (s : Int) : EX := { x with lb := x.lb ++ [(s, x.e)] }
/-- Does the next worker's record stand in the way? -/
def blocksE (x : EX) : Bool := !(x.rc.getD x.lk 0 == 0) && !(x.rc.getD x.lk 0 == x.e + 1)
def lookE (x : EX) : EX := if blocksE x = true then { x with lk := 0 } else if x.lk + 1 < x.rc.length then { x with lk := x.lk + 1 } else { x with lk := 0, e := x.e + 1 }
def lookB (x : EX) : Bool := !blocksE x && decide (¬ x.lk + 1 < x.rc.length)
def ripe (e : Nat) (p : Int × Nat) : Bool := decide (p.2 + 2 ≤ e)
def freeL1 (x : EX) : List (Int × Nat) := x.lb.takeWhile (ripe x.e)
def freeE (x : EX) : EX := { x with lb := x.lb.dropWhile (ripe x.e) }
/-- .. with numbers that may be no worker's. -/
def loadX (x : EX) (w : Int) : EX := if hasE x w = true then loadE x w.toNat else x
def loadV (x : EX) (w : Int) : Nat := if hasE x w = true then x.e else 0
def pinB (x : EX) (w : Int) : Bool := hasE x w && (x.rc.getD w.toNat 0 == 0)
def pinX (x : EX) (w : Int) : EX := if pinB x w = true then pinE x w.toNat else x
def unpinB (x : EX) (w : Int) : Bool := hasE x w && !(x.rc.getD w.toNat 0 == 0)
def unpinX (x : EX) (w : Int) : EX := if unpinB x w = true then unpinE x w.toNat else x
def retX (x : EX) (s : Int) : EX := if isRet x s = true then x else retE x s
def recV (x : EX) (w : Int) : Nat := if hasE x w = true then x.rc.getD w.toNat 0 else 0

/-- A clock as it may be, behind n deeds at most. -/
structure EFit (n : Nat) (x : EX) : Prop where
  len : x.ld.length = x.rc.length
  pos : 1 ≤ x.rc.length
  few : x.rc.length ≤ 64
  lk : x.lk < x.rc.length
  en : x.e ≤ n
  ln : x.lb.length ≤ n
  ld : ∀ k, x.ld.getD k 0 ≤ x.e
  rc : ∀ k, x.rc.getD k 0 ≤ x.e + 1
  gn : ∀ p ∈ x.lb, p.2 ≤ x.e
  up : x.lb.Pairwise fun p q => p.2 ≤ q.2
  one : (x.lb.map (·.1)).Nodup
theorem getD_rep (n k : Nat) : (List.replicate n 0).getD k 0 = 0 := by
  rw [List.getD_eq_getElem?_getD, List.getElem?_replicate]
  split <;> rfl
theorem EFit.new {n : Nat} (h1 : 1 ≤ n) (h2 : n ≤ 64) : EFit 0 (newE n) :=
  ⟨by simp [newE], by simpa [newE] using h1, by simpa [newE] using h2, by simp [newE]; omega, Nat.le_refl _, Nat.le_refl _, fun k => by rw [newE, getD_rep]; exact Nat.le_refl _, fun k => by rw [newE, getD_rep]; exact Nat.zero_le _, fun p hp => (by cases hp), List.Pairwise.nil, List.nodup_nil⟩
theorem getD_set (L : List Nat) (k v j : Nat) : (L.set k v).getD j 0 = if j = k ∧ k < L.length then v else L.getD j 0 := by
  rw [List.getD_eq_getElem?_getD, List.getD_eq_getElem?_getD, List.getElem?_set]
  by_cases e : k = j
  · subst e
    rw [if_pos rfl]
    by_cases h : k < L.length
    · rw [if_pos h, if_pos ⟨rfl, h⟩]
      rfl
    · rw [if_neg h, if_neg (fun h2 => h h2.2), List.getElem?_eq_none (by omega)]
  · rw [if_neg e, if_neg (fun h => e h.1.symm)]
section
variable {n m : Nat} {x : EX}
theorem EFit.more (h : EFit n x) (hm : n ≤ m) : EFit m x := { h with en := Nat.le_trans h.en hm, ln := Nat.le_trans h.ln hm }
theorem EFit.load (h : EFit n x) (k : Nat) : EFit n (loadE x k) := { h with
  len := by rw [loadE, List.length_set]; exact h.len
  ld := fun j => by
    show (x.ld.set k x.e).getD j 0 ≤ x.e
    rw [getD_set]
    split
    · exact Nat.le_refl _
    · exact h.ld j }
theorem EFit.pin (h : EFit n x) (k : Nat) : EFit n (pinE x k) := by
  have hl : (x.rc.set k (x.ld.getD k 0 + 1)).length = x.rc.length := List.length_set
  refine { h with len := h.len.trans hl.symm, pos := by rw [pinE, hl]; exact h.pos, few := by rw [pinE, hl]; exact h.few, lk := by rw [pinE, hl]; exact h.lk, rc := fun j => ?_ }
  show (x.rc.set k _).getD j 0 ≤ x.e + 1
  rw [getD_set]
  split
  · have := h.ld k
    omega
  · exact h.rc j
theorem EFit.unpin (h : EFit n x) (k : Nat) : EFit n (unpinE x k) := by
  have hl : (x.rc.set k 0).length = x.rc.length := List.length_set
  refine { h with len := h.len.trans hl.symm, pos := by rw [unpinE, hl]; exact h.pos, few := by rw [unpinE, hl]; exact h.few, lk := by rw [unpinE, hl]; exact h.lk, rc := fun j => ?_ }
  show (x.rc.set k _).getD j 0 ≤ x.e + 1
  rw [getD_set]
  split
  · exact Nat.zero_le _
  · exact h.rc j
theorem isRet_iff {s : Int} : isRet x s = true ↔ s ∈ x.lb.map (·.1) := by
  unfold isRet
  rw [List.any_eq_true, List.mem_map]
  constructor
  · rintro ⟨p, hp, he⟩
    exact ⟨p, hp, by simpa using he⟩
  · rintro ⟨p, hp, he⟩
    exact ⟨p, hp, by simpa using he⟩
theorem EFit.ret (h : EFit n x) {s : Int} (hs : isRet x s = false) : EFit (n + 1) (retE x s) := { h.more (Nat.le_succ n) with
  ln := by
    have := h.ln
    simp only [retE, List.length_append, List.length_singleton]
    omega
  gn := fun p hp => by
    rcases List.mem_append.1 hp with hp | hp
    · exact h.gn p hp
    · rw [List.mem_singleton.1 hp]
      exact Nat.le_refl _
  up := by
    show (x.lb ++ [(s, x.e)]).Pairwise _
    rw [List.pairwise_append]
    refine ⟨h.up, List.pairwise_singleton _ _, fun p hp q hq => ?_⟩
    rw [List.mem_singleton.1 hq]
    exact h.gn p hp
  one := by
    show ((x.lb ++ [(s, x.e)]).map (·.1)).Nodup
    rw [List.map_append, List.nodup_append]
    refine ⟨h.one, by simp, fun a ha b hb e => ?_⟩
    have hb' : b = s := by simpa using hb
    rw [e, hb'] at ha
    rw [isRet_iff.2 ha] at hs
    cases hs }
theorem EFit.look (h : EFit n x) : EFit (n + 1) (lookE x) := by
  have h0 := h.more (Nat.le_succ n)
  have hen := h.en
  have hpos := h.pos
  unfold lookE
  split
  · exact { h0 with lk := hpos }
  · split
    · rename_i hl
      exact { h0 with lk := hl }
    · exact { h0 with lk := hpos, en := Nat.succ_le_succ hen, ld := fun k => Nat.le_succ_of_le (h.ld k), rc := fun k => Nat.le_succ_of_le (h.rc k), gn := fun p hp => Nat.le_succ_of_le (h.gn p hp) }
theorem drop_sub : ∀ (f : Int × Nat → Bool) (l : List (Int × Nat)), (l.dropWhile f).Sublist l
  | _, [] => List.Sublist.slnil
  | f, a :: r => by
    rw [List.dropWhile_cons]
    split
    · exact (drop_sub f r).cons a
    · exact List.Sublist.refl _
theorem EFit.free (h : EFit n x) : EFit n (freeE x) := { h with
  ln := Nat.le_trans (drop_sub _ _).length_le h.ln
  gn := fun p hp => h.gn p ((drop_sub _ _).subset hp)
  up := h.up.sublist (drop_sub _ _)
  one := List.Nodup.sublist ((drop_sub _ _).map _) h.one }
/-- What is ripe stands ahead: all of it, and nothing else. -/
theorem free_filter (h : EFit n x) : freeL1 x = x.lb.filter (ripe x.e) ∧ (freeE x).lb = x.lb.filter (fun p => !ripe x.e p) := by
  have key : ∀ l : List (Int × Nat), l.Pairwise (fun p q => p.2 ≤ q.2) → l.takeWhile (ripe x.e) = l.filter (ripe x.e) ∧ l.dropWhile (ripe x.e) = l.filter (fun p => !ripe x.e p) := by
    intro l
    induction l with
    | nil => intro _; exact ⟨rfl, rfl⟩
    | cons a r ih =>
      intro hl
      obtain ⟨h1, h2⟩ := List.pairwise_cons.1 hl
      obtain ⟨i1, i2⟩ := ih h2
      by_cases hr : ripe x.e a = true
      · rw [List.takeWhile_cons_of_pos hr, List.filter_cons_of_pos hr, List.dropWhile_cons_of_pos hr, List.filter_cons_of_neg (by simp [hr]), i1, i2]
        exact ⟨rfl, rfl⟩
      · have hall : ∀ p ∈ r, ripe x.e p = false := fun p hp => by
          have := h1 p hp
          unfold ripe at hr ⊢
          simp only [decide_eq_true_eq] at hr
          simp only [decide_eq_false_iff_not]
          omega
        rw [List.takeWhile_cons_of_neg hr, List.filter_cons_of_neg hr, List.dropWhile_cons_of_neg hr, List.filter_cons_of_pos (by simpa using hr)]
        refine ⟨(List.filter_eq_nil_iff.2 (fun p hp => by rw [hall p hp]; simp)).symm, ?_⟩
        rw [List.filter_eq_self.2 (fun p hp => by rw [hall p hp]; rfl)]
  exact key x.lb h.up
theorem free_parts (x : EX) : freeL1 x ++ (freeE x).lb = x.lb := List.takeWhile_append_dropWhile
end

end Go.Proofs.Ytdgmcaehadigaaa
