/- What a probe law keeps: rows beside a probe; plain maths of what is wanted. -/
import Derived.Test.YtajmnhnepoomjaaPrbLives
import Derived.Test.YtajmnhnepoomjaaSpotsL
import Derived.Test.YtajmnhnepoomjaaSpotsOwn
import Derived.Test.YtajmnhnepoomjaaRankRest
namespace Go.Proofs.Ytajmnhnepoomjaa
open Go.RowKit Go.Shelf Go.Sort Go.Lib Go.Maps

/-- A row of spots of the call's own, in a block that stays. -/
structure RowIn (P : Nat → Prop) (B : Nat) (W : World) (v : Value) (L : List SpotT) : Prop where
  own : W.ownsRow B 62 3 v L.length (cellsS L)
  p : ∀ k, v.ownBlock = some k → P k
section
variable {P P' : Nat → Prop} {B : Nat} {W W' : World} {v : Value} {L : List SpotT}
theorem RowIn.stay (h : RowIn P B W v L) (hs : Stay P W W') : RowIn P B W' v L := ⟨own_kept h.own (fun k e => hs.blk k (h.p k e)), h.p⟩
theorem RowIn.later (h : RowIn P B W v L) (hb : Below W.heap.size W W') : RowIn P B W' v L := ⟨own_below h.own hb, h.p⟩
theorem RowIn.less (h : RowIn P B W v L) (hp : ∀ k, P k → P' k) : RowIn P' B W v L := ⟨h.own, fun k e => hp k (h.p k e)⟩
theorem RowIn.other {row : Option Nat} (h : RowIn P B W v L) (hg : W.grownBy W' row) (hne : ∀ k, v.ownBlock = some k → some k ≠ row) : RowIn P B W' v L := ⟨own_kept h.own (fun k e => hg.block k (h.own.lt k e).2 (hne k e)), h.p⟩
theorem VecIn.other {row : Option Nat} {A : Option Addr} {zs : List Int} (h : VecIn P W A zs) (hg : W.grownBy W' row) (hne : ∀ b o m, A = some ⟨b, o, m⟩ → zs ≠ [] → some b ≠ row) : VecIn P W' A zs := by
  refine ⟨⟨fun k z hz => ?_, h.v.len, h.v.all⟩, h.p⟩
  obtain ⟨b, off, hA, hb, hc⟩ := h.v.rd k z hz
  exact ⟨b, off, hA, Nat.lt_of_lt_of_le hb hg.size, (World.cell?_of_block (a := ⟨b, off + k, none⟩) (hg.block b hb (hne b off none hA (fun e => by subst e; simp at hz)))).trans hc⟩
end
section
variable {rs : List HSp} {P : Nat → Prop} {X W : World} {bp bm bq bl : Nat} {Q : Option Addr} {q : List Int} {cq : Nat} {mask : Int} {m nK : Nat} {K : List Int} {L L' O : List SpotT}
theorem PrbW.permQ (h : PrbW rs P X W bp bm bq bl Q q cq mask m nK K L O) (hp : L.Perm L') : PrbW rs P X W bp bm bq bl Q q cq mask m nK K L' O := { h with fam := h.fam.permQ (i := 0) rfl hp }
end

/-- The slots that are offered. -/
def slotsK (k : Nat) : List Int := (List.range k).map fun i : Nat => (i : Int)
theorem slotsK_next (k : Nat) : slotsK (k + 1) = slotsK k ++ [(k : Int)] := by simp [slotsK, List.range_succ]
theorem slotsK_old (k : Nat) : (slotsK k).contains (k : Int) = false := by
  unfold slotsK
  rw [List.contains_eq_any_beq, List.any_eq_false]
  intro x hx
  obtain ⟨i, hi, rfl⟩ := List.mem_map.1 hx
  have := List.mem_range.1 hi
  simp
  omega
theorem slotsK_new (k : Nat) : (slotsK (k + 1)).contains (k : Int) = true := by
  rw [slotsK_next]
  simp
def tagQ (m : Int) (z : ItT) : Bool := bits .and .u64 z.tags m == m
/-- Those of the first that have the tags. -/
def someL (q : List Int) (mask : Int) (its : List ItT) (k : Nat) : List SpotT := ((List.range k).filter fun i => tagQ mask (itAt its i)).map fun i : Nat => spotOf q (i : Int) (itAt its i)
theorem someL_next (q : List Int) (mask : Int) (its : List ItT) (k : Nat) : someL q mask its (k + 1) = if bits .and .u64 (itAt its k).tags mask = mask then someL q mask its k ++ [spotOf q (k : Int) (itAt its k)] else someL q mask its k := by
  unfold someL
  rw [List.range_succ, List.filter_append, List.map_append]
  by_cases h : bits .and .u64 (itAt its k).tags mask = mask
  · rw [if_pos h, List.filter_cons_of_pos (by unfold tagQ; simpa using h)]
    rfl
  · rw [if_neg h, List.filter_cons_of_neg (by unfold tagQ; simpa using h)]
    simp
theorem someL_len (q : List Int) (mask : Int) (its : List ItT) (k : Nat) : (someL q mask its k).length ≤ k := by
  unfold someL
  rw [List.length_map]
  have := List.length_filter_le (fun i => tagQ mask (itAt its i)) (List.range k)
  rw [List.length_range] at this
  exact this
/-- What is wanted behind k wants. -/
theorem drop_sort (Z : List SpotT) (hZ : sortS Z = Z) (k : Nat) : sortS (Z.drop k) = Z.drop k := by
  refine sortS_eq (List.Perm.refl _) ?_
  rw [← hZ]
  exact (sortS_sorted Z).sublist (List.drop_sublist _ _)
theorem want_drop {Z O : List SpotT} {m k : Nat} (hZ : sortS Z = Z) (h : hopeB m (Z.drop k) O = true) : wantL m (Z.drop k) O = Z.drop (k + 1) ∧ wantN m (Z.drop k) O = (spAt Z k).2 ∧ k < Z.length := by
  have hk : k < Z.length := by
    unfold hopeB at h
    rw [Bool.and_eq_true] at h
    have := of_decide_eq_true h.1
    rw [List.length_drop] at this
    omega
  refine ⟨?_, ?_, hk⟩
  · unfold wantL
    rw [if_pos h, drop_sort Z hZ, List.tail_drop]
  · unfold wantN
    rw [if_pos h, drop_sort Z hZ]
    simp [spAt]
theorem want_stop {Z O : List SpotT} {m k : Nat} (h : hopeB m (Z.drop k) O = false) : wantL m (Z.drop k) O = Z.drop k ∧ wantN m (Z.drop k) O = 0 := by
  unfold wantL wantN
  rw [h]
  exact ⟨rfl, rfl⟩
/-- With room for all, all is wanted. -/
theorem hope_room {L O : List SpotT} {m n : Nat} (hO : O.length ≤ n) (hm : n < m) (h : hopeB m L O = false) : L = [] := by
  unfold hopeB at h
  have hl := keepS_len m O
  have e : decide (m ≤ (keepS m O).length) = false := decide_eq_false (by omega)
  rw [e, Bool.not_false, Bool.true_or, Bool.and_true] at h
  have := of_decide_eq_false h
  exact List.eq_nil_of_length_eq_zero (by omega)
theorem hope_nil {O : List SpotT} {m : Nat} : hopeB m [] O = false := by
  unfold hopeB
  rw [List.length_nil, decide_eq_false (Nat.lt_irrefl 0)]
  rfl
theorem hope_end {Z O : List SpotT} {m : Nat} : hopeB m (Z.drop Z.length) O = false := by rw [List.drop_length]; exact hope_nil

/-- A vector of old memory. -/
theorem vecIn_of {P : Nat → Prop} {X W : World} {A : Option Addr} {zs : List Int} (hv : VecB X X.heap.size A zs) (hb : Below X.heap.size X W) (lo : ∀ g, g < X.heap.size → P g) : VecIn P W A zs := by
  refine ⟨(hv.below hb).more hb.size, fun b o m e hn => ?_⟩
  obtain ⟨x, hx⟩ : ∃ x, zs[0]? = some x := by
    cases zs with
    | nil => exact absurd rfl hn
    | cons x r => exact ⟨x, rfl⟩
  obtain ⟨b2, o2, e1, e2, _⟩ := hv.rd 0 x hx
  rw [e1] at e
  injection e with e
  injection e with e
  subst e
  exact lo _ e2
/-- A probe, and two rows of the call's own beside it. -/
structure PR (P : Nat → Prop) (X0 W : World) (B bp bm bq bl : Nat) (Q : Option Addr) (q : List Int) (cq : Nat) (mask : Int) (m nK : Nat) (K : List Int) (L O : List SpotT) (v1 : Value) (L1 : List SpotT) (v2 : Value) (L2 : List SpotT) : Prop where
  pr : PrbW [] P X0 W bp bm bq bl Q q cq mask m nK K L O
  a1 : RowIn P B W v1 L1
  a2 : RowIn P B W v2 L2
  ap : ∀ g, v1.ownBlock = some g → v2.ownBlock ≠ some g
  lo : ∀ g, g < X0.heap.size → P g
  sz : B ≤ W.heap.size
  bp : bp < B
  x3 : X0.heap.size ≤ B
  qv : ∀ b o mm, Q = some ⟨b, o, mm⟩ → q ≠ [] → b < B
section
variable {P : Nat → Prop} {X0 W W' : World} {B bp bm bq bl : Nat} {Q : Option Addr} {q : List Int} {cq : Nat} {mask : Int} {m nK nK' : Nat} {K K' : List Int} {L O L' O' L1 L2 : List SpotT} {v1 v2 : Value}
theorem PR.swap (h : PR P X0 W B bp bm bq bl Q q cq mask m nK K L O v1 L1 v2 L2) : PR P X0 W B bp bm bq bl Q q cq mask m nK K L O v2 L2 v1 L1 :=
  { h with a1 := h.a2, a2 := h.a1, ap := fun g e1 e2 => h.ap g e2 e1 }
theorem PR.probe (h : PR P X0 W B bp bm bq bl Q q cq mask m nK K L O v1 L1 v2 L2) (hp : PrbW [] P X0 W' bp bm bq bl Q q cq mask m nK' K' L' O') (hs : Stay P W W') : PR P X0 W' B bp bm bq bl Q q cq mask m nK' K' L' O' v1 L1 v2 L2 :=
  { h with pr := hp, a1 := h.a1.stay hs, a2 := h.a2.stay hs, sz := Nat.le_trans h.sz hs.size }
theorem PR.later (h : PR P X0 W B bp bm bq bl Q q cq mask m nK K L O v1 L1 v2 L2) (hb : Below W.heap.size W W') : PR P X0 W' B bp bm bq bl Q q cq mask m nK K L O v1 L1 v2 L2 := h.probe (h.pr.later hb) (h.pr.stay hb)
theorem PR.adds (h : PR P X0 W B bp bm bq bl Q q cq mask m nK K L O v1 L1 v2 L2) (hb : Below W.heap.size W W') :
    ∃ P', (∀ k, P k → P' k) ∧ (∀ k, W.heap.size ≤ k → k < W'.heap.size → P' k) ∧ PR P' X0 W' B bp bm bq bl Q q cq mask m nK K L O v1 L1 v2 L2 := by
  have h2 := h.later hb
  exact ⟨_, fun k hk => .inl hk, fun k h1 h2 => .inr ⟨h1, h2⟩, h.pr.adds hb, h2.a1.less (fun _ hk => .inl hk), h2.a2.less (fun _ hk => .inl hk), h.ap, fun g hg => .inl (h.lo g hg), h2.sz, h.bp, h.x3, h.qv⟩
theorem PR.app (h : PR P X0 W B bp bm bq bl Q q cq mask m nK K L O v1 L1 v2 L2) {g n cap : Nat} {L1' : List SpotT} (hg : W.grownBy W' v1.ownBlock) (ho : W'.ownsRow B 62 3 (.slice (some ⟨g, 0, none⟩) n cap) n (cellsS L1')) (hn : L1'.length = n) (hat : v1.ownBlock = some g ∨ W.heap.size ≤ g) (hlt : g < W'.heap.size) :
    ∃ P', (∀ k, P k → P' k) ∧ PR P' X0 W' B bp bm bq bl Q q cq mask m nK K L O (.slice (some ⟨g, 0, none⟩) n cap) L1' v2 L2 := by
  have hrow : ∀ k, v1.ownBlock = some k → B ≤ k ∧ k < W.heap.size := fun k e => h.a1.own.lt k e
  have hb := h.bp
  have hx := h.x3
  refine ⟨_, fun k hk => .inl hk, h.pr.grown hg (fun k e => ⟨h.a1.p k e, by have := (hrow k e).1; omega, by have := (hrow k e).1; omega⟩) (h.pr.vec.other hg (fun b o mm e hn e2 => by have := h.qv b o mm e hn; have := (hrow b e2.symm).1; omega)), ⟨by rw [hn]; exact ho, ?_⟩, (h.a2.other hg (fun k e e2 => h.ap k e2.symm e)).less (fun _ hk => .inl hk), ?_, fun g hg => .inl (h.lo g hg), Nat.le_trans h.sz hg.size, h.bp, h.x3, h.qv⟩
  · intro k e
    have e : g = k := by simpa [Value.ownBlock] using e
    subst e
    rcases hat with e | e
    · exact .inl (h.a1.p g e)
    · exact .inr ⟨e, hlt⟩
  · intro k e e2
    have e : g = k := by simpa [Value.ownBlock] using e
    subst e
    rcases hat with e | e
    · exact h.ap g e e2
    · have := (h.a2.own.lt g e2).2
      omega
end

end Go.Proofs.Ytajmnhnepoomjaa
