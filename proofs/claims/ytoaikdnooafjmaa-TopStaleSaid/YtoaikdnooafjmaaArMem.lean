/- An arena in memory: its row, its slots, the list of those that are free. -/
import Derived.Test.YtoaikdnooafjmaaArPlain
import Derived.Test.YtoaikdnooafjmaaRacAt
namespace Go.Proofs.Ytoaikdnooafjmaa
open Go.RowKit

def natV (n : Nat) : Value := .int .i64 (n : Int)
/-- An arena lies at B, its slots at bs, the list of those that are free is fv; cn tells how many have each state. -/
structure ArC (w : World) (B bs : Nat) (fv : Value) (st gn fr : List Nat) (cn : Nat → Int) : Prop where
  c0 : w.cell? ⟨B, 0, none⟩ = some (.slice (some ⟨bs, 0, none⟩) st.length st.length)
  c1 : w.cell? ⟨B, 1, none⟩ = some fv ∧ w.frozen? ⟨B, 1, none⟩ = false
  cc : ∀ j, j < 5 → w.cell? ⟨B, 2 + j, none⟩ = some (.int .i64 (cn j)) ∧ w.frozen? ⟨B, 2 + j, none⟩ = false
  sl : ∀ k, k < st.length → (w.cell? ⟨bs, k * 2, none⟩ = some (.int .i64 (st.getD k 0 : Nat)) ∧ w.frozen? ⟨bs, k * 2, none⟩ = false) ∧ w.cell? ⟨bs, k * 2 + 1, none⟩ = some (.int .i64 (gn.getD k 0 : Nat)) ∧ w.frozen? ⟨bs, k * 2 + 1, none⟩ = false
  row : w.ownsRow 0 3 1 fv fr.length (fr.map natV)
  ns : bs ≠ B
  nf : ∀ g, fv.ownBlock = some g → g ≠ B ∧ g ≠ bs
def ArM (B bs : Nat) (fv : Value) (b : Nat) : Prop := b = B ∨ b = bs ∨ fv.ownBlock = some b
/-- .. as many as there are. -/
def Ar (w : World) (B bs : Nat) (fv : Value) (x : AR) : Prop := ArC w B bs fv x.st x.gn x.fr fun j => ((x.st.count j : Nat) : Int)
theorem cellA_lt {w : World} {p : Addr} {v : Value} (h : w.cell? p = some v) : p.block < w.heap.size := by
  unfold World.cell? at h
  cases hb : w.heap[p.block]? with
  | none => rw [hb] at h; simp at h
  | some o => exact (Array.getElem?_eq_some_iff.1 hb).1
section
variable {w w' : World} {M : Nat → Prop} {B bs : Nat} {fv fv' : Value} {st gn fr : List Nat} {cn : Nat → Int}
theorem ArC.lt (h : ArC w B bs fv st gn fr cn) : B < w.heap.size := cellA_lt h.c0
theorem ArC.slt (h : ArC w B bs fv st gn fr cn) (hp : 1 ≤ st.length) : bs < w.heap.size := cellA_lt (h.sl 0 hp).1.1
theorem ArC.mlt (h : ArC w B bs fv st gn fr cn) (hp : 1 ≤ st.length) {b : Nat} (hb : ArM B bs fv b) : b < w.heap.size := by
  rcases hb with rfl | rfl | hb
  · exact h.lt
  · exact h.slt hp
  · exact (h.row.lt b hb).2
theorem ArC.same (h : ArC w B bs fv st gn fr cn) (hq : ∀ b, ArM B bs fv b → w'.heap[b]? = w.heap[b]?) : ArC w' B bs fv st gn fr cn := by
  have cB : ∀ o, w'.cell? ⟨B, o, none⟩ = w.cell? ⟨B, o, none⟩ := fun o => World.cell?_of_block (w := w) (hq B (.inl rfl))
  have fB : ∀ o, w'.frozen? ⟨B, o, none⟩ = w.frozen? ⟨B, o, none⟩ := fun o => World.frozen?_of_block (w := w) (hq B (.inl rfl))
  have cW : ∀ o, w'.cell? ⟨bs, o, none⟩ = w.cell? ⟨bs, o, none⟩ := fun o => World.cell?_of_block (w := w) (hq bs (.inr (.inl rfl)))
  have fW : ∀ o, w'.frozen? ⟨bs, o, none⟩ = w.frozen? ⟨bs, o, none⟩ := fun o => World.frozen?_of_block (w := w) (hq bs (.inr (.inl rfl)))
  exact {
    c0 := (cB 0).trans h.c0, c1 := ⟨(cB 1).trans h.c1.1, (fB 1).trans h.c1.2⟩
    cc := fun j hj => ⟨(cB _).trans (h.cc j hj).1, (fB _).trans (h.cc j hj).2⟩
    sl := fun k hk => ⟨⟨(cW _).trans (h.sl k hk).1.1, (fW _).trans (h.sl k hk).1.2⟩, (cW _).trans (h.sl k hk).2.1, (fW _).trans (h.sl k hk).2.2⟩
    row := ownsRow_same h.row (fun g hg => hq g (.inr (.inr hg))), ns := h.ns, nf := h.nf }
theorem ArC.chg (h : ArC w B bs fv st gn fr cn) (hp : 1 ≤ st.length) (hc : Chg M w w') (hM : ∀ b, M b → ¬ ArM B bs fv b) : ArC w' B bs fv st gn fr cn :=
  h.same fun b hb => hc.block b (h.mlt hp hb) (fun e => hM b e hb)
theorem ArC.later (h : ArC w B bs fv st gn fr cn) (hp : 1 ≤ st.length) (hb : Below w.heap.size w w') : ArC w' B bs fv st gn fr cn := h.chg hp (M := fun _ => False) (Chg.of_below hb) (fun _ e => e.elim)
theorem ArC.drew (h : ArC w B bs fv st gn fr cn) : ArC w.drew B bs fv st gn fr cn := h.same fun _ _ => rfl
theorem ArC.eq (h : ArC w B bs fv st gn fr cn) {cn' : Nat → Int} (he : ∀ j, j < 5 → cn j = cn' j) : ArC w B bs fv st gn fr cn' :=
  { h with cc := fun j hj => by rw [← he j hj]; exact h.cc j hj }
/-- How many have a state is written. -/
theorem ArC.setCnt (h : ArC w B bs fv st gn fr cn) {j : Nat} (hj : j < 5) (v : Int) : ArC (w.setCell ⟨B, 2 + j, none⟩ (.int .i64 v)) B bs fv st gn fr (updN cn j v) := by
  have q : ∀ b, b ≠ B → (w.setCell ⟨B, 2 + j, none⟩ (.int .i64 v)).heap[b]? = w.heap[b]? := fun b hb => Below.heap_setCell _ _ _ _ hb
  have co : ∀ i, 2 + j ≠ i → (w.setCell ⟨B, 2 + j, none⟩ (.int .i64 v)).cell? ⟨B, i, none⟩ = w.cell? ⟨B, i, none⟩ := fun i hi => World.cell?_setCell_other _ _ _ _ (fun e => hi (by injection e))
  have f : ∀ a, (w.setCell ⟨B, 2 + j, none⟩ (.int .i64 v)).frozen? a = w.frozen? a := fun a => World.frozen?_setCell _ _ _ _
  have cW : ∀ i, (w.setCell ⟨B, 2 + j, none⟩ (.int .i64 v)).cell? ⟨bs, i, none⟩ = w.cell? ⟨bs, i, none⟩ := fun i => World.cell?_of_block (w := w) (q bs h.ns)
  refine {
    c0 := (co 0 (by omega)).trans h.c0, c1 := ⟨(co 1 (by omega)).trans h.c1.1, (f _).trans h.c1.2⟩
    cc := fun i hi => ⟨?_, (f _).trans (h.cc i hi).2⟩
    sl := fun k hk => ⟨⟨(cW _).trans (h.sl k hk).1.1, (f _).trans (h.sl k hk).1.2⟩, (cW _).trans (h.sl k hk).2.1, (f _).trans (h.sl k hk).2.2⟩
    row := ownsRow_same h.row (fun g hg => q g (h.nf g hg).1), ns := h.ns, nf := h.nf }
  unfold updN
  by_cases e : i = j
  · subst e
    rw [if_pos rfl]
    exact World.cell?_setCell_same _ _ _ (h.cc i hi).1
  · rw [if_neg e]
    exact (co _ (by omega)).trans (h.cc i hi).1
/-- A slot's state, or its generation, is written. -/
theorem ArC.setSlot (h : ArC w B bs fv st gn fr cn) {k : Nat} (hk : k < st.length) (hl : gn.length = st.length) {v : Nat} {st' gn' : List Nat} {o : Nat} (ho : (o = k * 2 ∧ st' = st.set k v ∧ gn' = gn) ∨ (o = k * 2 + 1 ∧ st' = st ∧ gn' = gn.set k v)) :
    ArC (w.setCell ⟨bs, o, none⟩ (.int .i64 (v : Int))) B bs fv st' gn' fr cn := by
  have q : ∀ b, b ≠ bs → (w.setCell ⟨bs, o, none⟩ (.int .i64 (v : Int))).heap[b]? = w.heap[b]? := fun b hb => Below.heap_setCell _ _ _ _ hb
  have co : ∀ j, o ≠ j → (w.setCell ⟨bs, o, none⟩ (.int .i64 (v : Int))).cell? ⟨bs, j, none⟩ = w.cell? ⟨bs, j, none⟩ := fun j hj => World.cell?_setCell_other _ _ _ _ (fun e => hj (by injection e))
  have f : ∀ a, (w.setCell ⟨bs, o, none⟩ (.int .i64 (v : Int))).frozen? a = w.frozen? a := fun a => World.frozen?_setCell _ _ _ _
  have cB : ∀ j, (w.setCell ⟨bs, o, none⟩ (.int .i64 (v : Int))).cell? ⟨B, j, none⟩ = w.cell? ⟨B, j, none⟩ := fun j => World.cell?_of_block (w := w) (q B (fun e => h.ns e.symm))
  have hrl : st'.length = st.length := by rcases ho with ⟨_, rfl, _⟩ | ⟨_, rfl, _⟩ <;> simp
  refine {
    c0 := by rw [hrl]; exact (cB 0).trans h.c0, c1 := ⟨(cB 1).trans h.c1.1, (f _).trans h.c1.2⟩
    cc := fun i hi => ⟨(cB _).trans (h.cc i hi).1, (f _).trans (h.cc i hi).2⟩
    sl := fun j hj => ?_
    row := ownsRow_same h.row (fun g hg => q g (h.nf g hg).2), ns := h.ns, nf := h.nf }
  have hj' : j < st.length := by rw [← hrl]; exact hj
  obtain ⟨⟨w1, w2⟩, w3, w4⟩ := h.sl j hj'
  rcases ho with ⟨rfl, rfl, rfl⟩ | ⟨rfl, rfl, rfl⟩
  · refine ⟨⟨?_, (f _).trans w2⟩, (co _ (by omega)).trans w3, (f _).trans w4⟩
    rw [getD_set]
    by_cases e : j = k
    · subst e
      rw [if_pos ⟨rfl, by omega⟩]
      exact World.cell?_setCell_same _ _ _ w1
    · rw [if_neg (fun h => e h.1)]
      exact (co _ (by omega)).trans w1
  · refine ⟨⟨(co _ (by omega)).trans w1, (f _).trans w2⟩, ?_, (f _).trans w4⟩
    rw [getD_set]
    by_cases e : j = k
    · subst e
      rw [if_pos ⟨rfl, by omega⟩]
      exact World.cell?_setCell_same _ _ _ w3
    · rw [if_neg (fun h => e h.1)]
      exact (co _ (by omega)).trans w3
/-- The list of those that are free is another one. -/
theorem ArC.setFree (h : ArC w B bs fv st gn fr cn) {fr' : List Nat} (hr : w.ownsRow 0 3 1 fv' fr'.length (fr'.map natV)) (hn : ∀ g, fv'.ownBlock = some g → g ≠ B ∧ g ≠ bs) : ArC (w.setCell ⟨B, 1, none⟩ fv') B bs fv' st gn fr' cn := by
  have q : ∀ b, b ≠ B → (w.setCell ⟨B, 1, none⟩ fv').heap[b]? = w.heap[b]? := fun b hb => Below.heap_setCell _ _ _ _ hb
  have co : ∀ i, 1 ≠ i → (w.setCell ⟨B, 1, none⟩ fv').cell? ⟨B, i, none⟩ = w.cell? ⟨B, i, none⟩ := fun i hi => World.cell?_setCell_other _ _ _ _ (fun e => hi (by injection e))
  have f : ∀ a, (w.setCell ⟨B, 1, none⟩ fv').frozen? a = w.frozen? a := fun a => World.frozen?_setCell _ _ _ _
  have cW : ∀ i, (w.setCell ⟨B, 1, none⟩ fv').cell? ⟨bs, i, none⟩ = w.cell? ⟨bs, i, none⟩ := fun i => World.cell?_of_block (w := w) (q bs h.ns)
  exact {
    c0 := (co 0 (by omega)).trans h.c0, c1 := ⟨World.cell?_setCell_same _ _ _ h.c1.1, (f _).trans h.c1.2⟩
    cc := fun i hi => ⟨(co _ (by omega)).trans (h.cc i hi).1, (f _).trans (h.cc i hi).2⟩
    sl := fun k hk => ⟨⟨(cW _).trans (h.sl k hk).1.1, (f _).trans (h.sl k hk).1.2⟩, (cW _).trans (h.sl k hk).2.1, (f _).trans (h.sl k hk).2.2⟩
    row := ownsRow_same hr (fun g hg => q g (hn g hg).1), ns := h.ns, nf := hn }
end
/-- A row of numbers keeps its first ones. -/
theorem own_cut {w : World} {base n m c : Nat} {A : Option Addr} {L : List Nat} (h : w.ownsRow base 3 1 (.slice A n c) n (L.map natV)) (hm : m ≤ n) (hn : 1 ≤ n) : w.ownsRow base 3 1 (.slice A m c) m ((L.take m).map natV) := by
  have hl : L.length = n := by have := h.1; simpa using this
  rcases h.2 with ⟨_, h'⟩ | ⟨g', cap', cur, h', hb, hg, hnc, hcm, hcs, htake⟩
  · omega
  · injection h' with h1 h2 h3
    subst h1 h3
    refine ⟨by simp; omega, .inr ⟨g', c, cur, rfl, hb, hg, by omega, hcm, hcs, ?_⟩⟩
    rw [List.map_take, ← htake, List.take_take]
    congr 1
    omega

end Go.Proofs.Ytoaikdnooafjmaa
