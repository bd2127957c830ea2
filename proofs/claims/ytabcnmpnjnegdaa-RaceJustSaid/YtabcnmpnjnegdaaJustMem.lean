/- The memory of RaceJust: the deeds that come in, and the rows of what is before what. -/
import Derived.Test.YtabcnmpnjnegdaaRacOwn
import Derived.Test.YtabcnmpnjnegdaaJustData
import Derived.Test.YtabcnmpnjnegdaaClkRef2
import Derived.Test.YtabcnmpnjnegdaaLaw
import Derived.Deep.Strs
import Derived.Deep.Slices
namespace Go.Proofs.Ytabcnmpnjnegdaa
open Go.ChangeShapes Go.WideShapes Go.ChangeAt Go.RowKit Go.Joins Go.Deep

/-- Deeds in memory, in blocks below B: three cells each. -/
def DdD (w : World) (B : Nat) (A : Option Addr) (ds : List D3) : Prop :=
  ∀ k d, ds[k]? = some d → ∃ b off, A = some ⟨b, off, none⟩ ∧ b < B ∧ w.cell? ⟨b, off + k * 3, none⟩ = some (.int .i64 d.1.1) ∧ w.cell? ⟨b, off + k * 3 + 1, none⟩ = some (.int .i64 d.1.2) ∧ w.cell? ⟨b, off + k * 3 + 2, none⟩ = some (.int .i64 d.2)
theorem DdD.below {w w' : World} {B : Nat} {A : Option Addr} {ds : List D3} (h : DdD w B A ds) (hb : Below B w w') : DdD w' B A ds := fun k d hd => by
  obtain ⟨b, off, hA, hlt, h0, h1, h2⟩ := h k d hd
  exact ⟨b, off, hA, hlt, (hb.cell (p := ⟨b, off + k * 3, none⟩) hlt).trans h0, (hb.cell (p := ⟨b, off + k * 3 + 1, none⟩) hlt).trans h1, (hb.cell (p := ⟨b, off + k * 3 + 2, none⟩) hlt).trans h2⟩

/-- A list out of what holds at each place. -/
theorem list_of {α : Type} {F : Nat → α → Prop} : ∀ n : Nat, (∀ i, i < n → ∃ z, F i z) → ∃ L : List α, L.length = n ∧ ∀ (k : Nat) (z : α), L[k]? = some z → F k z
  | 0, _ => ⟨[], rfl, fun k z h => by simp at h⟩
  | n + 1, H => by
    obtain ⟨L, hl, hL⟩ := list_of n fun i hi => H i (by omega)
    obtain ⟨z, hz⟩ := H n (by omega)
    refine ⟨L ++ [z], by simp [hl], fun k y hk => ?_⟩
    rcases Nat.lt_trichotomy k n with h | h | h
    · rw [List.getElem?_append_left (by omega)] at hk
      exact hL k y hk
    · subst h
      rw [List.getElem?_append_right (by omega), hl, Nat.sub_self] at hk
      simp at hk
      subst hk
      exact hz
    · rw [List.getElem?_eq_none (by simp; omega)] at hk
      cases hk

section
variable {H : Type} {enc : TypeId × Value → H} {P : Program} {w : World} {base : Nat}
/-- A slice of elements of m cells: where each lies, and that it reads. -/
theorem open_elems {t e : TypeId} {m : Nat} {v : Value} {d : DataW H} {p : List MemPlace} (ht : P.underlying t = some (.slice e)) (hC : P.cellsOf e = m) (hm : 0 < m)
    (hv : Value.okWide P w .any base t v) (h : DataW.Trod enc P w 0 (fun _ => true) true t v d p) :
    ∃ (A : Option Addr) (n c : Nat), v = .slice A n c ∧ n ≤ c ∧ n ≤ 9223372036854775807 ∧ (A = none → c = 0) ∧ c ≤ 9223372036854775807 ∧
      ∀ i, i < n → ∃ (b off : Nat) (cs : List Value) (f : Nat) (y : DataW H × List MemPlace), A = some ⟨b, off, none⟩ ∧ b < w.heap.size ∧ cs.length = m ∧ (∀ j, j < m → w.cell? ⟨b, off + i * m + j, none⟩ = cs[j]?) ∧ DataW.trod enc P w 0 (fun _ => true) true f e cs = some y := by
  obtain ⟨a0, n, c, rfl⟩ := okWide_slice ht hv
  obtain ⟨fuel, hf⟩ := h
  rcases open_slice ht hf with ⟨hcs, _⟩ | ⟨a, len, cap, m', n', D, Pl, hcs, _, hl, hmx, hmm, _, hi⟩
  · simp [Value.cells] at hcs
    obtain ⟨rfl, rfl, rfl⟩ := hcs
    exact ⟨none, 0, 0, rfl, Nat.le_refl _, by omega, fun _ => rfl, by omega, fun i h => by omega⟩
  · simp [Value.cells] at hcs
    obtain ⟨rfl, rfl, rfl⟩ := hcs
    simp only [if_true] at hmm
    subst hmm
    unfold maxLen at hmx
    refine ⟨some a, _, _, rfl, hl, by omega, (fun h => by cases h), hmx, fun i hin => ?_⟩
    obtain ⟨cs', hc, hd⟩ := hi i (by omega)
    rw [hC] at hc
    obtain ⟨_, hcl, hat⟩ := World.cells?_some hc
    obtain ⟨b, off, spot⟩ := a
    have hs : spot = none := by
      obtain ⟨cs0, hc0, _⟩ := hi 0 (by omega)
      rw [hC] at hc0
      obtain ⟨_, hcl0, hat0⟩ := World.cells?_some hc0
      have h0 := hat0 0 hm
      rw [List.getElem?_eq_getElem (by omega)] at h0
      simpa [Addr.add] using World.cell?_spot h0
    subst hs
    refine ⟨b, off, cs', n', (D i, Pl i), rfl, ?_, hcl, fun j hj => ?_, hd⟩
    · have h0 := hat 0 hm
      rw [List.getElem?_eq_getElem (by omega), add_plain, add_plain] at h0
      exact World.block_lt_of_cell? w _ h0
    · have := hat j hj
      rwa [add_plain, add_plain] at this

theorem open_deeds18 {t e : TypeId} {f0 f1 f2 : Field} {v : Value} {d : DataW H} {p : List MemPlace} (ht : P.underlying t = some (.slice e)) (hd : P.underlying e = some (.struct #[f0, f1, f2])) (hC : P.cellsOf e = 3)
    (hone : oneCellFields P #[f0, f1, f2] = true) (u0 : P.underlying f0.type = some (.int .i64)) (u1 : P.underlying f1.type = some (.int .i64)) (u2 : P.underlying f2.type = some (.int .i64))
    (hv : Value.okWide P w .any base t v) (h : DataW.Trod enc P w 0 (fun _ => true) true t v d p) :
    ∃ (A : Option Addr) (zs : List D3) (c : Nat), v = .slice A zs.length c ∧ DdD w w.heap.size A zs ∧ (∀ x ∈ zs, IsI x.2) ∧ zs.length ≤ c ∧ c ≤ 9223372036854775807 ∧ (A = none → c = 0) := by
  obtain ⟨A, n, c, rfl, hnc, hn, hA, hc, hel⟩ := open_elems ht hC (by omega) hv h
  have H1 : ∀ i, i < n → ∃ z : D3, (∃ b off, A = some ⟨b, off, none⟩ ∧ b < w.heap.size ∧ w.cell? ⟨b, off + i * 3, none⟩ = some (.int .i64 z.1.1) ∧ w.cell? ⟨b, off + i * 3 + 1, none⟩ = some (.int .i64 z.1.2) ∧ w.cell? ⟨b, off + i * 3 + 2, none⟩ = some (.int .i64 z.2)) ∧ IsI z.2 := by
    intro i hi
    obtain ⟨b, off, cs, f, y, rfl, hb, hl, hcell, hy⟩ := hel i hi
    match cs, hl with
    | [c0, c1, c2], _ =>
      obtain ⟨xs, n', _, _, _, hlen, hg⟩ := DataW.trod_struct hd hy
      obtain ⟨o0, k0⟩ := hone_of hone 0 f0 rfl
      obtain ⟨o1, k1⟩ := hone_of hone 1 f1 rfl
      obtain ⟨o2, k2⟩ := hone_of hone 2 f2 rfl
      match xs, hlen with
      | [y0, y1, y2], _ =>
        have e0 : DataW.trod enc P w 0 (fun _ => true) true n' f0.type [c0] = some y0 := by simpa [o0, k0] using hg 0 f0 rfl
        have e1 : DataW.trod enc P w 0 (fun _ => true) true n' f1.type [c1] = some y1 := by simpa [o1, k1] using hg 1 f1 rfl
        have e2 : DataW.trod enc P w 0 (fun _ => true) true n' f2.type [c2] = some y2 := by simpa [o2, k2] using hg 2 f2 rfl
        obtain ⟨a, ha, _, _⟩ := DataW.trod_int u0 e0
        obtain ⟨b2, hb2, _, _⟩ := DataW.trod_int u1 e1
        obtain ⟨c3, hc3, _, wf⟩ := DataW.trod_int u2 e2
        simp at ha hb2 hc3
        subst ha hb2 hc3
        exact ⟨((a, b2), c3), ⟨b, off, rfl, hb, hcell 0 (by omega), hcell 1 (by omega), hcell 2 (by omega)⟩, wf⟩
  obtain ⟨zs, hlen, hzs⟩ := list_of n H1
  subst hlen
  refine ⟨A, zs, c, rfl, fun k d hd => (hzs k d hd).1, fun x hx => ?_, hnc, hc, hA⟩
  obtain ⟨k, hk, hkx⟩ := List.mem_iff_getElem.1 hx
  exact (hzs k x (by rw [List.getElem?_eq_getElem hk, hkx])).2
end

/-- The truth of a sentence. -/
noncomputable def dB (p : Prop) : Bool := @decide p (Classical.propDecidable p)
theorem dB_iff {p : Prop} : dB p = true ↔ p := @decide_eq_true_iff p (Classical.propDecidable p)
theorem dB_no {p : Prop} : dB p = false ↔ ¬ p := @decide_eq_false_iff_not p (Classical.propDecidable p)
theorem dB_eq {p q : Prop} (h : p ↔ q) : dB p = dB q := by rw [propext h]
theorem dB_of {p : Prop} {b : Bool} (h : b = true ↔ p) : b = dB p := by
  cases b
  · exact (dB_no.2 fun hp => Bool.noConfusion (h.2 hp)).symm
  · exact (dB_iff.2 (h.1 rfl)).symm

theorem cell_heap {w w' : World} {b : Nat} (h : w'.heap[b]? = w.heap[b]?) (j : Nat) : w'.cell? ⟨b, j, none⟩ = w.cell? ⟨b, j, none⟩ := by
  simp only [World.cell?, h]
theorem frozen_heap {w w' : World} {b : Nat} (h : w'.heap[b]? = w.heap[b]?) (j : Nat) : w'.frozen? ⟨b, j, none⟩ = w.frozen? ⟨b, j, none⟩ := by
  simp only [World.frozen?, h]

/-- m rows of L truths each: the headers lie in block b0, row j in block rb j. -/
structure Mx (w : World) (b0 : Nat) (rb : Nat → Nat) (L m : Nat) (f : Nat → Nat → Bool) : Prop where
  hd : ∀ j, j < m → w.cell? ⟨b0, j, none⟩ = some (.slice (some ⟨rb j, 0, none⟩) L L)
  th : ∀ j, j < L → (w.cell? ⟨b0, j, none⟩).isSome = true ∧ w.frozen? ⟨b0, j, none⟩ = false
  row : ∀ j, j < m → ∀ k, k < L → w.cell? ⟨rb j, k, none⟩ = some (.bool (f j k)) ∧ w.frozen? ⟨rb j, k, none⟩ = false
  ne : ∀ j, j < m → rb j ≠ b0
  inj : ∀ j k, j < m → k < m → rb j = rb k → j = k
section
variable {w w' : World} {b0 L m : Nat} {rb : Nat → Nat} {f g : Nat → Nat → Bool}
theorem Mx.keep (h : Mx w b0 rb L m f) (h0 : w'.heap[b0]? = w.heap[b0]?) (hr : ∀ j, j < m → w'.heap[rb j]? = w.heap[rb j]?) : Mx w' b0 rb L m f :=
  ⟨fun j hj => (cell_heap h0 j).trans (h.hd j hj), fun j hj => by rw [cell_heap h0, frozen_heap h0]; exact h.th j hj,
    fun j hj k hk => by rw [cell_heap (hr j hj), frozen_heap (hr j hj)]; exact h.row j hj k hk, h.ne, h.inj⟩
theorem Mx.congr (h : Mx w b0 rb L m f) (hfg : ∀ j, j < m → ∀ k, k < L → f j k = g j k) : Mx w b0 rb L m g :=
  ⟨h.hd, h.th, fun j hj k hk => by rw [← hfg j hj k hk]; exact h.row j hj k hk, h.ne, h.inj⟩
theorem Mx.set (h : Mx w b0 rb L m f) {i q : Nat} (hi : i < m) (hq : q < L) (v : Bool) : Mx (w.setCell ⟨rb i, q, none⟩ (.bool v)) b0 rb L m fun j k => if j = i ∧ k = q then v else f j k := by
  refine ⟨fun j hj => ?_, fun j hj => ?_, fun j hj k hk => ⟨?_, ?_⟩, h.ne, h.inj⟩
  · rw [World.cell?_setCell_other _ _ _ _ (fun e => h.ne i hi (by cases e; rfl))]
    exact h.hd j hj
  · rw [World.cell?_setCell_other _ _ _ _ (fun e => h.ne i hi (by cases e; rfl)), World.frozen?_setCell]
    exact h.th j hj
  · by_cases e : j = i ∧ k = q
    · obtain ⟨rfl, rfl⟩ := e
      rw [if_pos ⟨rfl, rfl⟩]
      exact World.cell?_setCell_same _ _ _ (h.row j hj k hk).1
    · rw [if_neg e, World.cell?_setCell_other _ _ _ _ (fun e2 => e ⟨(h.inj i j hi hj (Addr.mk.inj e2).1).symm, (Addr.mk.inj e2).2.1.symm⟩)]
      exact (h.row j hj k hk).1
  · rw [World.frozen?_setCell]
    exact (h.row j hj k hk).2
/-- One row more, and its header. -/
theorem Mx.more (h : Mx w b0 rb L m f) (hm : m < L) {r : Nat} (hr0 : r ≠ b0) (hrj : ∀ j, j < m → r ≠ rb j) {u : Nat → Bool} (hrow : ∀ k, k < L → w.cell? ⟨r, k, none⟩ = some (.bool (u k)) ∧ w.frozen? ⟨r, k, none⟩ = false) :
    Mx (w.setCell ⟨b0, m, none⟩ (.slice (some ⟨r, 0, none⟩) L L)) b0 (fun j => if j = m then r else rb j) L (m + 1) fun j k => if j = m then u k else f j k := by
  have hne : ∀ {b c o : Nat}, c ≠ b0 → Addr.mk b0 m none ≠ Addr.mk c o none := fun hc e => hc (by cases e; rfl)
  refine ⟨fun j hj => ?_, fun j hj => ⟨?_, ?_⟩, fun j hj k hk => ⟨?_, ?_⟩, fun j hj => ?_, fun j k hj hk e => ?_⟩
  · by_cases e : j = m
    · subst e
      rw [if_pos rfl]
      obtain ⟨u0, hu⟩ := Option.isSome_iff_exists.1 (h.th j hm).1
      exact World.cell?_setCell_same _ _ _ hu
    · rw [if_neg e, World.cell?_setCell_other _ _ _ _ (fun e2 => e (by cases e2; rfl))]
      exact h.hd j (by omega)
  · by_cases e : j = m
    · subst e
      obtain ⟨u0, hu⟩ := Option.isSome_iff_exists.1 (h.th j hm).1
      rw [World.cell?_setCell_same _ _ _ hu]
      rfl
    · rw [World.cell?_setCell_other _ _ _ _ (fun e2 => e (by cases e2; rfl))]
      exact (h.th j hj).1
  · rw [World.frozen?_setCell]
    exact (h.th j hj).2
  · by_cases e : j = m
    · subst e
      simp only [if_true]
      rw [World.cell?_setCell_other _ _ _ _ (fun e2 => hr0 (by cases e2; rfl))]
      exact (hrow k hk).1
    · simp only [if_neg e]
      rw [World.cell?_setCell_other _ _ _ _ (fun e2 => h.ne j (by omega) (by cases e2; rfl))]
      exact (h.row j (by omega) k hk).1
  · rw [World.frozen?_setCell]
    by_cases e : j = m
    · subst e
      simp only [if_true]
      exact (hrow k hk).2
    · simp only [if_neg e]
      exact (h.row j (by omega) k hk).2
  · by_cases e : j = m
    · simp only [if_pos e]; exact hr0
    · simp only [if_neg e]; exact h.ne j (by omega)
  · by_cases e1 : j = m <;> by_cases e2 : k = m
    · rw [e1, e2]
    · simp only [if_pos e1, if_neg e2] at e
      exact absurd e (hrj k (by omega))
    · simp only [if_neg e1, if_pos e2] at e
      exact absurd e.symm (hrj j (by omega))
    · simp only [if_neg e1, if_neg e2] at e
      exact h.inj j k (by omega) (by omega) e
end

/-- The rows ahead of i tell what is before, row i is g. -/
noncomputable def rowsOf (l : List D3) (i : Nat) (g : Nat → Bool) (j k : Nat) : Bool := if j = i then g k else dB (Bef l j k)
/-- All that the law has in memory in round i. -/
structure In (w0 : World) (l : List D3) (B b0 db : Nat) (rb : Nat → Nat) (n i : Nat) (a : AX) (g : Nat → Bool) (w : World) : Prop where
  w3 : W3 w0 n B a (fun b => b = b0 ∨ b = db ∨ ∃ j, j < i + 1 ∧ b = rb j) w
  mx : Mx w b0 rb l.length (i + 1) (rowsOf l i g)
  d0 : w.cell? ⟨db, 0, none⟩ = some (.int .i64 (kd l i))
  d1 : w.cell? ⟨db, 1, none⟩ = some (.int .i64 (wkr l i))
  d2 : w.cell? ⟨db, 2, none⟩ = some (.int .i64 (plc l i))
  n0 : db ≠ b0
  nr : ∀ j, j < i + 1 → rb j ≠ db
section
variable {w0 w w' : World} {l : List D3} {B b0 db n i : Nat} {rb : Nat → Nat} {a a' : AX} {g g' : Nat → Bool}
theorem In.keepJ {n' : Nat} (h : In w0 l B b0 db rb n i a g w) (h3 : W3 w0 n' B a' (fun b => b = b0 ∨ b = db ∨ ∃ j, j < i + 1 ∧ b = rb j) w') (hk : Keep (fun b => b = b0 ∨ b = db ∨ ∃ j, j < i + 1 ∧ b = rb j) w w') : In w0 l B b0 db rb n' i a' g w' :=
  have hd := hk db (.inr (.inl rfl))
  ⟨h3, h.mx.keep (hk b0 (.inl rfl)) fun j hj => hk (rb j) (.inr (.inr ⟨j, hj, rfl⟩)), (cell_heap hd _).trans h.d0, (cell_heap hd _).trans h.d1, (cell_heap hd _).trans h.d2, h.n0, h.nr⟩
theorem In.later (h : In w0 l B b0 db rb n i a g w) (hb : Below w.heap.size w w') : In w0 l B b0 db rb n i a g w' :=
  h.keepJ (h.w3.later hb) (Keep.of_below (fun _ e => h.w3.lt e) hb)
theorem In.congr (h : In w0 l B b0 db rb n i a g w) (hg : ∀ k, k < l.length → g k = g' k) : In w0 l B b0 db rb n i a g' w :=
  ⟨h.w3, h.mx.congr fun j _ k hk => by unfold rowsOf; rw [hg k hk], h.d0, h.d1, h.d2, h.n0, h.nr⟩
theorem In.set (h : In w0 l B b0 db rb n i a g w) {q : Nat} (hq : q < l.length) (v : Bool) : In w0 l B b0 db rb n i a (fun k => if k = q then v else g k) (w.setCell ⟨rb i, q, none⟩ (.bool v)) := by
  have hne : ∀ o, Addr.mk (rb i) q none ≠ Addr.mk db o none := fun o e => h.nr i (Nat.lt_succ_self i) (by cases e; rfl)
  refine ⟨h.w3.set (.inr (.inr ⟨i, Nat.lt_succ_self i, rfl⟩)) _, (h.mx.set (Nat.lt_succ_self i) hq v).congr fun j hj k hk => ?_, ?_, ?_, ?_, h.n0, h.nr⟩
  · unfold rowsOf
    simp only
    by_cases e : j = i
    · by_cases e2 : k = q
      · rw [if_pos ⟨e, e2⟩, if_pos e, if_pos e2]
      · rw [if_neg (fun e3 => e2 e3.2), if_pos e, if_pos e, if_neg e2]
    · rw [if_neg (fun e3 => e e3.1), if_neg e, if_neg e]
  · rw [World.cell?_setCell_other _ _ _ _ (hne 0)]; exact h.d0
  · rw [World.cell?_setCell_other _ _ _ _ (hne 1)]; exact h.d1
  · rw [World.cell?_setCell_other _ _ _ _ (hne 2)]; exact h.d2
/-- The header of a row, and what stands in it. -/
theorem In.at_ (h : In w0 l B b0 db rb n i a g w) {j k : Nat} (hj : j ≤ i) (hk : k < l.length) : w.cell? ⟨b0, j, none⟩ = some (.slice (some ⟨rb j, 0, none⟩) l.length l.length) ∧ w.cell? ⟨rb j, k, none⟩ = some (.bool (rowsOf l i g j k)) ∧ w.frozen? ⟨rb j, k, none⟩ = false :=
  ⟨h.mx.hd j (by omega), h.mx.row j (by omega) k hk⟩
theorem In.src {A : Option Addr} (h : In w0 l B b0 db rb n i a g w) (hA : DdD w0 w0.heap.size A l) : DdD w w0.heap.size A l := hA.below h.w3.below
end

end Go.Proofs.Ytabcnmpnjnegdaa
