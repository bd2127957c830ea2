/- Data that are read and written only by who holds their mutex (plain): whoever loads the mutex's place knows all that was noted of them. -/
import Derived.Test.YtgfcpjkihbaapaaRacBd
import Derived.Test.YtgfcpjkihbaapaaLckPlain
namespace Go.Proofs.Ytgfcpjkihbaapaa

/-- Between two rounds: what is noted of data is known by what lies at the place of the same number. -/
structure Grd (a : AX) (c : Int) : Prop where
  bd : bdA a c
  cl : a.cl = []
  wt : ∀ d, a.wt d ≤ atM (a.pn d) (a.wr d)
  rd : ∀ d (j : Nat), j < 65 → a.rd d j ≤ (a.pn d).getD j 0
/-- In a round: of p's data, it is known by k. -/
structure Mid (a : AX) (c : Int) (k : Nat) (p : Int) : Prop where
  bd : bdA a c
  cl : a.cl = []
  wt : ∀ d, d ≠ p → a.wt d ≤ atM (a.pn d) (a.wr d)
  rd : ∀ d, d ≠ p → ∀ (j : Nat), j < 65 → a.rd d j ≤ (a.pn d).getD j 0
  wk : a.wt p ≤ atM (a.N k) (a.wr p)
  rk : ∀ (j : Nat), j < 65 → a.rd p j ≤ (a.N k).getD j 0
section
variable {a : AX} {c : Int} {k : Nat} {p : Int}
theorem Grd.new : Grd newA 1 where
  bd := bd_new
  cl := rfl
  wt := fun d => by
    show (0 : Int) ≤ atM zeroN 0
    decide +kernel
  rd := fun d j _ => by
    show (0 : Int) ≤ zeroN.getD j 0
    rw [zeroN_at]
    decide
theorem atM_le {M N : List Int} (h : ∀ j : Nat, M.getD j 0 ≤ N.getD j 0) (x : Int) : atM M x ≤ atM N x := by
  unfold atM
  split
  · exact h _
  · exact Int.le_refl _
theorem Grd.load (h : Grd a c) (k : Nat) (p : Int) : Mid (loadA a k p) c k p := by
  have hj : ∀ j : Nat, (a.pn p).getD j 0 ≤ ((loadA a k p).N k).getD j 0 := fun j => by
    show _ ≤ (updN a.N k (joinN (a.N k) (a.pn p)) k).getD j 0
    rw [updN, if_pos rfl, join_at (h.bd.1 k).1 (h.bd.2 p).1]
    omega
  exact ⟨bd_load h.bd k p, h.cl, fun d _ => h.wt d, fun d _ => h.rd d, Int.le_trans (h.wt p) (atM_le hj _), fun j hj1 => Int.le_trans (h.rd p j hj1) (hj j)⟩
theorem Mid.hid (h : Mid a c k p) : hidW a k p = false := by
  unfold hidW
  rw [decide_eq_true h.wk]
  rfl
theorem Mid.clash (h : Mid a c k p) : clashW a k p = none := by
  unfold clashW
  rw [h.hid, if_neg (by decide), hidR_none h.rk, if_neg (by decide)]
theorem Mid.read (h : Mid a c k p) : Mid (readA a k p) c k p := by
  have hcl : (readA a k p).cl = [] := by
    show (if hidW a k p = true then _ else a.cl) = []
    rw [h.hid, if_neg (by decide)]
    exact h.cl
  refine ⟨h.bd, hcl, h.wt, fun d hd j hj => ?_, h.wk, fun j hj => ?_⟩
  · show updI a.rd p (updI (a.rd p) k ((a.N k).getD k 0)) d j ≤ _
    rw [updI, if_neg hd]
    exact h.rd d hd j hj
  · show updI a.rd p (updI (a.rd p) k ((a.N k).getD k 0)) p j ≤ (a.N k).getD j 0
    rw [updI, if_pos rfl]
    unfold updI
    by_cases e : (j : Int) = (k : Int)
    · rw [if_pos e, show j = k by omega]
      exact Int.le_refl _
    · rw [if_neg e]
      exact h.rk j hj
theorem Mid.write (h : Mid a c k p) (hk : k < 65) : Mid (writeA a k p) c k p := by
  have hcl : (writeA a k p).cl = [] := by
    show (match clashW a k p with | some x => a.cl ++ [(x, (((k : Int), p), true))] | none => a.cl) = []
    rw [h.clash]
    exact h.cl
  refine ⟨h.bd, hcl, fun d hd => ?_, fun d hd j hj => ?_, ?_, fun j hj => ?_⟩
  · show updI a.wt p ((a.N k).getD k 0) d ≤ atM (a.pn d) (updI a.wr p (k : Int) d)
    rw [updI, if_neg hd, updI, if_neg hd]
    exact h.wt d hd
  · show updI a.rd p (fun _ => 0) d j ≤ _
    rw [updI, if_neg hd]
    exact h.rd d hd j hj
  · show updI a.wt p ((a.N k).getD k 0) p ≤ atM (a.N k) (updI a.wr p (k : Int) p)
    rw [updI, if_pos rfl, updI, if_pos rfl, atM_nat _ hk]
    exact Int.le_refl _
  · show updI a.rd p (fun _ => 0) p j ≤ (a.N k).getD j 0
    rw [updI, if_pos rfl]
    exact (h.bd.1 k).1.2 j
theorem Grd.more (h : Grd a c) {e : Int} (he : c ≤ e) : Grd a e :=
  ⟨⟨fun k => ⟨(h.bd.1 k).1, fun j => Int.le_trans ((h.bd.1 k).2 j) he⟩, fun q => ⟨(h.bd.2 q).1, fun j => Int.le_trans ((h.bd.2 q).2 j) he⟩⟩, h.cl, h.wt, h.rd⟩
theorem Mid.store (h : Mid a c k p) : Grd (storeA a k p) (c + 1) := by
  refine ⟨bd_store h.bd k p, h.cl, fun d => ?_, fun d j hj => ?_⟩
  · show a.wt d ≤ atM (updI a.pn p (a.N k) d) (a.wr d)
    unfold updI
    by_cases e : d = p
    · rw [if_pos e, e]
      exact h.wk
    · rw [if_neg e]
      exact h.wt d e
  · show a.rd d j ≤ (updI a.pn p (a.N k) d).getD j 0
    unfold updI
    by_cases e : d = p
    · rw [if_pos e, e]
      exact h.rk j hj
    · rw [if_neg e]
      exact h.rd d e j hj
end

/-- What the table tells, in a round of one worker and one mutex. -/
theorem turn_take {v m : Int} (h1 : okW v = true) (h2 : okN m = true) : takeX newL v m = ⟨[(m, v)], [], true⟩ ∧ takeB newL v m = true := by
  have h3 : hold newL.hs m = none := rfl
  unfold takeX takeB
  rw [if_pos ⟨h1, h2, by rw [h3]; simp⟩, h3, h1, h2]
  exact ⟨rfl, rfl⟩
theorem hold_one (m v : Int) : hold [(m, v)] m = some v := by simp [hold]
theorem turn_wait {v m : Int} (h2 : okN m = true) (hne : v ≠ 64) : takeX ⟨[(m, v)], [], true⟩ 64 m = ⟨[(m, v)], [(m, 64)], true⟩ ∧ takeB ⟨[(m, v)], [], true⟩ 64 m = false := by
  unfold takeX takeB
  simp only
  rw [if_pos ⟨by decide, h2, by rw [hold_one]; simpa using hne⟩, hold_one, h2]
  refine ⟨?_, by simp⟩
  simp [restL, aboveB, hne]
theorem turn_give {v m : Int} (hne : v ≠ 64) : giveX ⟨[(m, v)], [(m, 64)], true⟩ v m = ⟨[], [(m, 64)], true⟩ ∧ giveB ⟨[(m, v)], [(m, 64)], true⟩ v m = true := by
  unfold giveX giveB
  simp only
  rw [hold_one, if_pos rfl]
  refine ⟨?_, by simp⟩
  simp [freeL, restL, Ne.symm hne]
theorem turn_then {m : Int} (h2 : okN m = true) : takeX ⟨[], [(m, 64)], true⟩ 64 m = ⟨[(m, 64)], [], true⟩ ∧ takeB ⟨[], [(m, 64)], true⟩ 64 m = true := by
  unfold takeX takeB
  simp only
  rw [if_pos ⟨by decide, h2, by simp [hold]⟩, h2]
  refine ⟨?_, by simp [hold]; decide⟩
  simp [hold, restL, aboveB]
theorem turn_end (m : Int) : giveX ⟨[(m, 64)], [], true⟩ 64 m = newL ∧ giveB ⟨[(m, 64)], [], true⟩ 64 m = true := by
  unfold giveX giveB
  simp only
  rw [hold_one, if_pos rfl]
  refine ⟨?_, by simp⟩
  simp [freeL, restL, newL]
theorem turn_fit {v m : Int} (h1 : okW v = true) (h2 : okN m = true) : LFit ⟨[(m, v)], [], true⟩ := by
  have := LFit.new.take v m
  rw [(turn_take h1 h2).1] at this
  exact this
theorem turn_fit2 {v m : Int} (h1 : okW v = true) (h2 : okN m = true) (hne : v ≠ 64) : LFit ⟨[], [(m, 64)], true⟩ := by
  have := ((turn_fit h1 h2).take 64 m).give v m
  rw [(turn_wait h2 hne).1, (turn_give hne).1] at this
  exact this
theorem ring_none : ringP newL = [] := by decide +kernel

end Go.Proofs.Ytgfcpjkihbaapaa
