/- Heaps side by side beside other memory: a row of the call's own, a spot in its block. -/
import Derived.Test.YtajmnhnepoomjaaQueKeep
import Derived.Test.YtajmnhnepoomjaaOwnKept
import Derived.Deep.AppendLies
namespace Go.Proofs.Ytajmnhnepoomjaa
open Go.RowKit Go.Shelf Go.Sort

/-- A spot in a block of its own. -/
def SpC (W : World) (k : Nat) (s : SpotT) : Prop := W.cell? ⟨k, 0, none⟩ = some (.int .u64 s.1.1) ∧ W.cell? ⟨k, 1, none⟩ = some (.int .u64 s.1.2) ∧ W.cell? ⟨k, 2, none⟩ = some (.int .i64 s.2)
theorem SpC.same {W W' : World} {k : Nat} {s : SpotT} (h : SpC W k s) (e : W'.heap[k]? = W.heap[k]?) : SpC W' k s :=
  ⟨(World.cell?_of_block (a := ⟨k, 0, none⟩) e).trans h.1, (World.cell?_of_block (a := ⟨k, 1, none⟩) e).trans h.2.1, (World.cell?_of_block (a := ⟨k, 2, none⟩) e).trans h.2.2⟩
theorem SpC.below {W W' : World} {B k : Nat} {s : SpotT} (h : SpC W k s) (hb : Below B W W') (hk : k < B) : SpC W' k s := h.same (hb.block k hk)
theorem SpC.new (W : World) (x y z : Int) : SpC (W.alloc (.cells #[.int .u64 x, .int .u64 y, .int .i64 z] 62)) W.heap.size ((x, y), z) := ⟨by go_cell, by go_cell, by go_cell⟩
section
variable {P : Nat → Prop} {X W W' : World} {ss : List HSp}
theorem Fam.grown {row : Option Nat} (h : Fam P X W ss) (hg : W.grownBy W' row) (hr : ∀ k, row = some k → P k ∧ X.heap.size ≤ k) : Fam (fun k => P k ∨ (W.heap.size ≤ k ∧ k < W'.heap.size)) X W' ss := by
  obtain ⟨F, h⟩ := h
  refine ⟨F, fun i s hi => (h.at_ i s hi).kept (fun k hk => hg.block k ((h.at_ i s hi).lt k hk) (fun e => h.pf i k (idx_lt hi) (hr k e.symm).1 hk)), h.apart, h.low, h.hb.grown hg h.hb.size (fun g he => (hr g he).2), ?_, ?_⟩
  · rintro k (hk | hk)
    · exact Nat.lt_of_lt_of_le (h.pl k hk) hg.size
    · exact hk.2
  · rintro i k hi (hk | hk)
    · exact h.pf i k hi hk
    · intro hf
      have := h.lt hi hf
      omega
theorem Fam.alloc (h : Fam P X W ss) (o : Obj) : Fam (fun k => P k ∨ k = W.heap.size) X (W.alloc o) ss := (h.adds (below_new3 W o)).less (by
  rintro k (hk | rfl)
  · exact .inl hk
  · exact .inr ⟨Nat.le_refl _, by simp⟩)
/-- A queue holds the same spots in whatever order they are told. -/
theorem Fam.permQ (h : Fam P X W ss) {i b : Nat} {L L' : List SpotT} (hi : ss[i]? = some ⟨b, none, L⟩) (hp : L.Perm L') : Fam P X W (ss.set i ⟨b, none, L'⟩) := by
  obtain ⟨F, h⟩ := h
  have hil := idx_lt hi
  obtain ⟨A, c, M, hF, h1, h2, h3⟩ : QH (F i) W b L := h.at_ i _ hi
  refine ⟨F, ?_, fun a c k h1 h2 => h.apart a c k (by simpa using h1) (by simpa using h2), fun a k h1 => h.low a k (by simpa using h1), h.hb, h.pl, fun a k h1 => h.pf a k (by simpa using h1)⟩
  intro j s hj
  by_cases e : j = i
  · subst e
    rw [List.getElem?_set_self hil] at hj
    injection hj with hj
    subst hj
    exact ⟨A, c, M, hF, h1, h2, h3.trans hp⟩
  · rw [List.getElem?_set_ne (fun h => e h.symm)] at hj
    exact h.at_ j s hj
end
theorem spAt_sorted {L : List SpotT} (k : Nat) : spAt (sortS ((sortS L).drop k)) 0 = spAt (sortS L) k := by
  have h : sortS ((sortS L).drop k) = (sortS L).drop k := sortS_eq (List.Perm.refl _) ((sortS_sorted L).sublist (List.drop_sublist _ _))
  rw [h]
  simp [spAt]
theorem tail_sorted {L : List SpotT} (k : Nat) : (sortS ((sortS L).drop k)).tail = (sortS L).drop (k + 1) := by
  have h : sortS ((sortS L).drop k) = (sortS L).drop k := sortS_eq (List.Perm.refl _) ((sortS_sorted L).sublist (List.drop_sublist _ _))
  rw [h, List.tail_drop]
theorem least_best (L : List SpotT) (most : Int) : leastS L (min most 4096) = keepS (bestN most) L := by
  rw [leastS_take]
  unfold keepS bestN
  congr 1
  omega
theorem keep_rev (m : Nat) (L : List SpotT) : keepS m L.reverse = keepS m L := by
  unfold keepS
  rw [sortS_perm_eq (List.reverse_perm L)]

end Go.Proofs.Ytajmnhnepoomjaa
