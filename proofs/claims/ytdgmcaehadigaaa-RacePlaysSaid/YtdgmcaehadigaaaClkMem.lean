/- Arrays of 65 numbers in memory: loaded, stored, boxed, compared as wholes. -/
import Derived.Test.YtdgmcaehadigaaaClkPlain
import Derived.Test.YtdgmcaehadigaaaOwn
import Derived.Deep.MidRow
import Derived.Deep.WholeRow
import Derived.ChangeKeysEq
namespace Go.Proofs.Ytdgmcaehadigaaa
open Go.RowKit

def cellsA (N : List Int) : Array Value := (N.map (Value.int .i64)).toArray
def zeroN : List Int := List.replicate 65 0
theorem zeroN_num : IsNum zeroN := ⟨rfl, fun k => by
  rw [zeroN, List.getD_eq_getElem?_getD, List.getElem?_replicate]
  split <;> exact Int.le_refl _⟩
theorem info_num : (Try.prog.info? 175).map (fun i => (i.zero, i.size)) = some (some (.agg (cellsA zeroN)), 65) := by kernel_rfl
theorem zero_num (w : World) : (zeroValue 175).run Try.prog w = .ok (.agg (cellsA zeroN)) w := (zero_of_info info_num).1 w
theorem size_num : (Try.prog.info? 175).map (·.size) = some 65 := (zero_of_info info_num).2

/-- Numbers lie in block b, from its beginning on, and may be written. -/
def Arr (w : World) (b : Nat) (N : List Int) : Prop := ∀ j z, N[j]? = some z → w.cell? ⟨b, j, none⟩ = some (.int .i64 z) ∧ w.frozen? ⟨b, j, none⟩ = false
section
variable {w w' : World} {b B : Nat} {N : List Int}
theorem Arr.new (w : World) (N : List Int) (t : TypeId) : Arr (w.alloc (.cells (cellsA N) t)) w.heap.size N := fun j z hj => by
  have h : (w.alloc (.cells (cellsA N) t)).heap[w.heap.size]? = some (.cells (cellsA N) t (0, 0)) := heap_alloc_last w _
  refine ⟨?_, ?_⟩
  · rw [cell_of_row _ _ j _ t (0, 0) h]
    simp [cellsA, hj]
  · simp only [World.frozen?]; rw [h]; simp
theorem Arr.below (h : Arr w b N) (hb : Below B w w') (hlt : b < B) : Arr w' b N := fun j z hj => by
  obtain ⟨h1, h2⟩ := h j z hj
  refine ⟨(hb.cell (p := ⟨b, j, none⟩) hlt).trans h1, ?_⟩
  rw [← h2]
  exact hb.frozen (p := ⟨b, j, none⟩) hlt
theorem Arr.store (h : Arr w b N) (q : Nat) (z : Int) : Arr (w.setCell ⟨b, q, none⟩ (.int .i64 z)) b (N.set q z) := by
  intro j x hj
  rw [List.getElem?_set] at hj
  by_cases e : q = j
  · subst e
    rw [if_pos rfl] at hj
    by_cases hl : q < N.length
    · rw [if_pos hl] at hj
      injection hj with hj
      subst hj
      obtain ⟨h1, h2⟩ := h q _ (List.getElem?_eq_getElem hl)
      exact ⟨World.cell?_setCell_same _ _ _ h1, by simpa using h2⟩
    · rw [if_neg hl] at hj
      cases hj
  · rw [if_neg e] at hj
    obtain ⟨h1, h2⟩ := h j x hj
    exact ⟨(World.cell?_setCell_other _ _ _ _ (fun h => e (by cases h; rfl))).trans h1, by simpa using h2⟩
theorem Arr.other (h : Arr w b N) {c : Nat} (hne : c ≠ b) (q : Nat) (v : Value) : Arr (w.setCell ⟨c, q, none⟩ v) b N := fun j z hj => by
  obtain ⟨h1, h2⟩ := h j z hj
  exact ⟨(World.cell?_setCell_other _ _ _ _ (fun h => hne (by cases h; rfl))).trans h1, by rw [World.frozen?_setCell]; exact h2⟩
theorem Arr.range (h : Arr w b N) : w.rangeAt b 0 (N.map (Value.int .i64)) := fun j v hv => by
  rw [List.getElem?_map] at hv
  cases hz : N[j]? with
  | none => rw [hz] at hv; cases hv
  | some z =>
    rw [hz] at hv
    injection hv with hv
    subst hv
    rw [Nat.zero_add]
    exact (h j z hz).1
theorem Arr.there (h : Arr w b N) : w.there b 0 N.length := fun j hj => by
  obtain ⟨h1, h2⟩ := h j _ (List.getElem?_eq_getElem hj)
  rw [Nat.zero_add]
  exact ⟨by rw [h1]; rfl, h2⟩
theorem Arr.setCells (h : Arr w b N) {M : List Int} (hl : M.length = N.length) : Arr (w.setCells b 0 (M.map (Value.int .i64))) b M := fun j z hj => by
  have hjl : j < M.length := (List.getElem?_eq_some_iff.1 hj).1
  have ht := h.there
  rw [← hl] at ht
  refine ⟨?_, ?_⟩
  · have := World.rangeAt_setCells_same w b 0 (M.map (Value.int .i64)) (by rw [List.length_map]; exact ht) j (.int .i64 z) (by rw [List.getElem?_map, hj]; rfl)
    rw [Nat.zero_add] at this
    exact this
  · rw [World.frozen?_setCells]
    have := (ht j hjl).2
    rwa [Nat.zero_add] at this
theorem Arr.setCellsOther (h : Arr w b N) {c : Nat} (hne : b ≠ c) (vs : List Value) : Arr (w.setCells c 0 vs) b N := fun j z hj => by
  obtain ⟨h1, h2⟩ := h j z hj
  refine ⟨?_, by rw [World.frozen?_setCells]; exact h2⟩
  rw [World.cell?_setCells_out c vs 0 w ⟨b, j, none⟩ (fun hb _ => absurd hb hne)]
  exact h1
theorem Arr.rd (h : Arr w b N) (hb : b < B) : Rd (Value.int .i64) w B (some ⟨b, 0, none⟩) N := fun j z hj => ⟨b, 0, rfl, hb, by rw [Nat.zero_add]; exact (h j z hj).1⟩
end
theorem below_setCells {a : World} {B b : Nat} : ∀ (vs : List Value) (o : Nat) {w : World}, Below B a w → B ≤ b → Below B a (w.setCells b o vs)
  | [], _, _, h, _ => h
  | v :: vs, o, _, h, hb => below_setCells vs (o + 1) (h.setCell (p := ⟨b, o, none⟩) hb v) hb
theorem size_setCells (b : Nat) : ∀ (vs : List Value) (o : Nat) (w : World), (w.setCells b o vs).heap.size = w.heap.size
  | [], _, _ => rfl
  | v :: vs, o, w => (size_setCells b vs (o + 1) _).trans (by simp)

section
variable {ops : Array Oper} {rest : List Oper} {op : Oper} {a : Act} {w : World} {Q : Exit → Act → World → Prop}
/-- The whole array is read. -/
theorem wpList_loadN (hgd : op.guard = none) (x : Operand) (ho : op.op = .load 175 x) (b : Nat) (hx : a.eval x = .pointer (some ⟨b, 0, none⟩)) (N : List Int) (hA : Arr w b N) (hN : N.length = 65)
    (h : wpList Try.prog ops Q rest (a.put op.dst (.agg (cellsA N))) w) : wpList Try.prog ops Q (op :: rest) a w :=
  wpList_load_mid hgd _ x ho b 0 hx (N.map (Value.int .i64)) _ hA.range Try.underlying175 rfl (by rw [List.length_map, hN]; exact size_num) h
/-- The whole array is written. -/
theorem wpList_storeN (hgd : op.guard = none) (x y : Operand) (ho : op.op = .store 175 x y) (b : Nat) (hx : a.eval x = .pointer (some ⟨b, 0, none⟩)) (N : List Int) (hy : a.eval y = .agg (cellsA N)) (M : List Int) (hA : Arr w b M) (hM : M.length = 65) (hN : N.length = 65)
    (h : wpList Try.prog ops Q rest (a.put op.dst undef) (w.setCells b 0 (N.map (Value.int .i64)))) : wpList Try.prog ops Q (op :: rest) a w := by
  have hs : (cellsA N).size = 65 := by simp [cellsA, hN]
  have ht := hA.there
  rw [hM, ← hs] at ht
  have := wpList_store_mid (P := Try.prog) (ops := ops) (rest := rest) (Q := Q) hgd _ x y ho b 0 (cellsA N) hx hy ht (by rw [hs]; exact size_num) (all_oneCell_toArray (fun v hv => by
    obtain ⟨z, _, rfl⟩ := List.mem_map.1 hv
    rfl))
  exact this (by simpa [cellsA] using h)
theorem load_num (b : Nat) (N : List Int) (hA : Arr w b N) (hN : N.length = 65) : (loadVar 175 ⟨b, 0, none⟩).run Try.prog w = .ok (.agg (cellsA N)) w :=
  run_loadVar_mid w b 0 _ (N.map (Value.int .i64)) _ hA.range Try.underlying175 rfl (by rw [List.length_map, hN]; exact size_num)
end

/-- What a function tells whose one result lies in memory. -/
theorem results_cell {P : Program} {w : World} (fn : Func) {s : Nat} {t : TypeId} (hr : fn.results = #[.cell s t]) (tmps : Array Value) (ad : Addr) (ht : tmps.getD s undef = .pointer (some ad)) (v : Value) (hl : (loadVar t ad).run P w = .ok v w) : (results fn tmps).run P w = .ok v w := by
  unfold results
  rw [hr]
  have ht' : tmps[s]?.getD undef = .pointer (some ad) := by simpa using ht
  simp [asAddr, ht', hl]

/-- Arrays, held against one another. -/
theorem eqItems_ints (d : Nat) (M N : List Int) (w : World) (hM : M.length = 65) (hN : N.length = 65) : ∀ is : List Nat, (∀ i ∈ is, i < 65) →
    (Op.eqItems (d + 1) 3 1 (cellsA M) (cellsA N) is).run Try.prog w = .ok (is.all fun i => M.getD i 0 == N.getD i 0) w
  | [], _ => by simp [Op.eqItems]
  | i :: is, h => by
    have hi := h i (List.mem_cons_self ..)
    have hag : (isAgg 3).run Try.prog w = .ok false w := by
      unfold isAgg
      rw [Sem.run_bind, run_underlying Try.underlying3 w]
      rfl
    have p1 : ∀ L : List Int, L.length = 65 → (part 3 (cellsA L) (i * 1)).run Try.prog w = .ok (.int .i64 (L.getD i 0)) w := fun L hL => by
      have hc : (cellsA L)[i * 1]? = some (.int .i64 (L.getD i 0)) := by
        rw [Nat.mul_one, List.getD_eq_getElem?_getD]
        simp [cellsA, List.getElem?_eq_getElem (show i < L.length by omega)]
      rw [part, Sem.run_bind, hag, Result.andThen_ok, if_neg (by simp), hc]
      rfl
    have ih := eqItems_ints d M N w hM hN is fun j hj => h j (List.mem_cons_of_mem _ hj)
    have he := run_equalIn_int (P := Try.prog) w d 3 .i64 .i64 (M.getD i 0) (N.getD i 0) Try.underlying3
    simp only [Op.eqItems, Sem.run_bind, p1 M hM, p1 N hN, Result.andThen_ok, he]
    rw [List.all_cons]
    cases hb : (M.getD i 0 == N.getD i 0)
    · rfl
    · exact ih
set_option maxRecDepth 100000 in
theorem eq_num (M N : List Int) (w : World) (hM : M.length = 65) (hN : N.length = 65) : (Op.equalIn 10000 175 (.agg (cellsA M)) (.agg (cellsA N))).run Try.prog w = .ok (decide (M = N)) w := by
  obtain ⟨i, hi⟩ : ∃ i, Try.prog.info? 3 = some i := ⟨_, rfl⟩
  have hc : Try.prog.cellsOf 3 = 1 := by kernel_rfl
  rw [show (10000 : Nat) = 9999 + 1 from rfl, run_equalIn_array w 9999 _ _ Try.underlying175 hi, hc, show (9999 : Nat) = 9998 + 1 from rfl, eqItems_ints 9998 M N w hM hN _ (fun i hi => List.mem_range.1 hi)]
  congr 1
  rw [Bool.eq_iff_iff, decide_eq_true_iff, List.all_eq_true]
  constructor
  · intro h
    exact num_ext hM hN fun k hk => by simpa using h k (List.mem_range.2 hk)
  · rintro rfl i _
    simp

end Go.Proofs.Ytdgmcaehadigaaa
