/- An epoch clock in memory: its row, its workers, its map, what is retired. -/
import Derived.Test.YtdgmcaehadigaaaEpPlain
import Derived.Test.YtdgmcaehadigaaaRacAt
import Derived.Maps.OwnSet
import Derived.Deep.AppendLies
namespace Go.Proofs.Ytdgmcaehadigaaa
open Go.RowKit Go.Maps Go.ChangeMaps Go.MapKept

theorem under_set : Try.prog.underlying 147 = some (.map 3 155) := Try.underlying147
theorem zero_unit (w : World) : (zeroValue 155).run Try.prog w = .ok (.agg #[]) w := by kernel_rfl
/-- Block b is a map of at most n keys; m tells which ones. -/
def MapU (w : World) (b n : Nat) (m : Int → Bool) : Prop :=
  ∃ D : DataW Value, w.ownsMap Try.prog 3 unitElem b n D ∧ ∀ k, IsI k → Maps.has D (.int .i64 k) = m k
theorem litE_ne {k x : Int} (e : k ≠ x) : Lit.int .i64 k ≠ Lit.int .i64 x := fun h => e (by injection h)
section
variable {w w' : World} {b n : Nat} {m : Int → Bool}
theorem MapU.made (w : World) : MapU (w.alloc (.map #[] 0)) w.heap.size 0 (fun _ => false) :=
  ⟨.map [], World.ownsMap_made w _ _ _, fun _ _ => rfl⟩
theorem MapU.mono (h : MapU w b n m) {n' : Nat} (hn : n ≤ n') : MapU w b n' m := let ⟨D, h1, h2⟩ := h; ⟨D, h1.mono hn, h2⟩
theorem MapU.lt (h : MapU w b n m) : b < w.heap.size := let ⟨_, h1, _⟩ := h; h1.lt
theorem MapU.same (h : MapU w b n m) (hs : w'.heap[b]? = w.heap[b]?) : MapU w' b n m := by
  obtain ⟨D, ⟨es, clock, hb, r⟩, h2⟩ := h
  exact ⟨D, ⟨es, clock, hs.trans hb, r⟩, h2⟩
theorem MapU.not_cell (h : MapU w b n m) {c : Nat} {o : Nat} {v : Value} (hc : w.cell? ⟨c, o, none⟩ = some v) : c ≠ b := by
  obtain ⟨D, ⟨es, clock, hb, r⟩, h2⟩ := h
  intro e
  subst e
  simp [World.cell?, hb] at hc
theorem MapU.eq (h : MapU w b n m) {m' : Int → Bool} (he : ∀ k, IsI k → m k = m' k) : MapU w b n m' := let ⟨D, h1, h2⟩ := h; ⟨D, h1, fun k hk => (h2 k hk).trans (he k hk)⟩
theorem MapU.look (h : MapU w b n m) {x : Int} (hx : IsI x) :
    (Instr.lookup 147 (.map (some b)) (.int .i64 x) true).run Try.prog w = .ok (.tuple #[.agg #[], .bool (m x)]) w := by
  obtain ⟨D, h1, h2⟩ := h
  obtain ⟨v, ps, hrun, hv⟩ := h1.look_ok law_int under_set (zero_unit w) (zd := .agg []) (zp := []) unitElem_mk (key_int hx)
  obtain ⟨rfl, _⟩ := unitElem_inv hv
  rw [← h2 x hx]
  exact hrun
def putU (m : Int → Bool) (x : Int) : Int → Bool := fun k => if k = x then true else m k
def delU (m : Int → Bool) (x : Int) : Int → Bool := fun k => if k = x then false else m k
theorem MapU.put (h : MapU w b n m) (hn : n < maxLen) {x : Int} (hx : IsI x) :
    ∃ w', (Instr.mapUpdate 147 (.map (some b)) (.int .i64 x) (.agg #[])).run Try.prog w = .ok () w' ∧ MapU w' b (n + 1) (putU m x) ∧ w.mapTurned w' b := by
  obtain ⟨D, h1, h2⟩ := h
  obtain ⟨w', hrun, h3, h4⟩ := h1.store law_int under_set hn (d := .agg []) (ps := []) (key_int hx) unitElem_mk
  refine ⟨w', hrun, ⟨_, h3, fun k hk => ?_⟩, h4⟩
  unfold putU
  by_cases e : k = x
  · subst e
    rw [if_pos rfl, has_put_same h1.isMap (show WideAt.IsKeyLit (.int .i64 k) from trivial)]
  · rw [if_neg e, has_put_other (litE_ne e)]
    exact h2 k hk
theorem MapU.drop (h : MapU w b n m) {x : Int} (hx : IsI x) :
    ∃ w', (∀ ty, (Builtin.delete_ #[147, 3] ty #[.map (some b), .int .i64 x]).run Try.prog w = .ok (.tuple #[]) w') ∧ MapU w' b n (delU m x) ∧ w.mapTurned w' b := by
  obtain ⟨D, h1, h2⟩ := h
  have hd := fun ty => h1.drop law_int under_set (key_int hx) ty
  obtain ⟨w', hrun, h3, h4⟩ := hd 0
  refine ⟨w', fun ty => hrun, ⟨_, h3, fun k hk => ?_⟩, h4⟩
  unfold delU
  by_cases e : k = x
  · subst e
    rw [if_pos rfl, has_del_same]
  · rw [if_neg e, has_del_other (litE_ne e)]
    exact h2 k hk
end

/-- What is retired, cell by cell. -/
def cellsR (l : List (Int × Nat)) : List Value := l.flatMap fun p => [.int .i64 p.1, .int .i64 (p.2 : Int)]
theorem cellsR_snoc (l : List (Int × Nat)) (p : Int × Nat) : cellsR (l ++ [p]) = cellsR l ++ [.int .i64 p.1, .int .i64 (p.2 : Int)] := by simp [cellsR]
theorem cellsR_len (l : List (Int × Nat)) : (cellsR l).length = l.length * 2 := by
  induction l with
  | nil => rfl
  | cons a r ih =>
    show (_ :: _ :: cellsR r).length = _
    simp only [List.length_cons, ih]
    omega
theorem cellsR_one (l : List (Int × Nat)) : ∀ u ∈ cellsR l, u.oneCell' = true := by
  intro u hu
  obtain ⟨p, _, hp⟩ := List.mem_flatMap.1 hu
  simp only [List.mem_cons, List.not_mem_nil, or_false] at hp
  rcases hp with rfl | rfl <;> rfl
theorem cellsR_at : ∀ (l : List (Int × Nat)) (k : Nat) (p : Int × Nat), l[k]? = some p → (cellsR l)[k * 2]? = some (.int .i64 p.1) ∧ (cellsR l)[k * 2 + 1]? = some (.int .i64 (p.2 : Int))
  | a :: r, 0, p, h => by
    simp at h
    subst h
    exact ⟨rfl, rfl⟩
  | a :: r, k + 1, p, h => by
    have := cellsR_at r k p (by simpa using h)
    rw [show (k + 1) * 2 = k * 2 + 2 by omega]
    exact this
theorem cellsR_drop : ∀ (l : List (Int × Nat)) (k : Nat), (cellsR l).drop (k * 2) = cellsR (l.drop k)
  | l, 0 => by simp
  | [], k + 1 => by simp [cellsR]
  | a :: r, k + 1 => by
    rw [show (k + 1) * 2 = k * 2 + 2 by omega]
    exact cellsR_drop r k

/-- A clock lies at B, its workers at bw, the map of what is retired at bm, the list of it at lv. -/
structure Ep (w : World) (B bw bm n : Nat) (lv : Value) (x : EX) : Prop where
  c0 : w.cell? ⟨B, 0, none⟩ = some (.int .i64 (x.e : Int)) ∧ w.frozen? ⟨B, 0, none⟩ = false
  c1 : w.cell? ⟨B, 1, none⟩ = some (.slice (some ⟨bw, 0, none⟩) x.rc.length x.rc.length)
  c2 : w.cell? ⟨B, 2, none⟩ = some lv ∧ w.frozen? ⟨B, 2, none⟩ = false
  c3 : w.cell? ⟨B, 3, none⟩ = some (.map (some bm))
  c4 : w.cell? ⟨B, 4, none⟩ = some (.int .i64 (x.lk : Int)) ∧ w.frozen? ⟨B, 4, none⟩ = false
  wk : ∀ k, k < x.rc.length → (w.cell? ⟨bw, k * 2, none⟩ = some (.int .i64 (x.ld.getD k 0 : Nat)) ∧ w.frozen? ⟨bw, k * 2, none⟩ = false) ∧ w.cell? ⟨bw, k * 2 + 1, none⟩ = some (.int .i64 (x.rc.getD k 0 : Nat)) ∧ w.frozen? ⟨bw, k * 2 + 1, none⟩ = false
  row : w.ownsRow 0 154 2 lv x.lb.length (cellsR x.lb)
  mp : MapU w bm n (isRet x)
  nw : bw ≠ B
  nr : ∀ g, lv.ownBlock = some g → g ≠ B ∧ g ≠ bw
def EpM (B bw bm : Nat) (lv : Value) (b : Nat) : Prop := b = B ∨ b = bw ∨ b = bm ∨ lv.ownBlock = some b
theorem cellE_lt {w : World} {p : Addr} {v : Value} (h : w.cell? p = some v) : p.block < w.heap.size := by
  unfold World.cell? at h
  cases hb : w.heap[p.block]? with
  | none => rw [hb] at h; simp at h
  | some o => exact (Array.getElem?_eq_some_iff.1 hb).1
section
variable {w w' : World} {M : Nat → Prop} {B bw bm n : Nat} {lv : Value} {x : EX}
theorem Ep.lt (h : Ep w B bw bm n lv x) : B < w.heap.size := cellE_lt h.c0.1
theorem Ep.wlt (h : Ep w B bw bm n lv x) (hp : 1 ≤ x.rc.length) : bw < w.heap.size := cellE_lt (h.wk 0 hp).1.1
theorem Ep.mlt (h : Ep w B bw bm n lv x) (hp : 1 ≤ x.rc.length) {b : Nat} (hb : EpM B bw bm lv b) : b < w.heap.size := by
  rcases hb with rfl | rfl | rfl | hb
  · exact h.lt
  · exact h.wlt hp
  · exact h.mp.lt
  · exact (h.row.lt b hb).2
theorem Ep.chg (h : Ep w B bw bm n lv x) (hp : 1 ≤ x.rc.length) (hc : Chg M w w') (hM : ∀ b, M b → ¬ EpM B bw bm lv b) : Ep w' B bw bm n lv x := by
  have nB : ¬ M B := fun e => hM _ e (.inl rfl)
  have nW : ¬ M bw := fun e => hM _ e (.inr (.inl rfl))
  have cB : ∀ o, w'.cell? ⟨B, o, none⟩ = w.cell? ⟨B, o, none⟩ := fun o => hc.cell (p := ⟨B, o, none⟩) h.lt nB
  have fB : ∀ o, w'.frozen? ⟨B, o, none⟩ = w.frozen? ⟨B, o, none⟩ := fun o => hc.frozen (p := ⟨B, o, none⟩) h.lt nB
  have cW : ∀ o, w'.cell? ⟨bw, o, none⟩ = w.cell? ⟨bw, o, none⟩ := fun o => hc.cell (p := ⟨bw, o, none⟩) (h.wlt hp) nW
  have fW : ∀ o, w'.frozen? ⟨bw, o, none⟩ = w.frozen? ⟨bw, o, none⟩ := fun o => hc.frozen (p := ⟨bw, o, none⟩) (h.wlt hp) nW
  exact {
    c0 := ⟨(cB 0).trans h.c0.1, (fB 0).trans h.c0.2⟩, c1 := (cB 1).trans h.c1, c2 := ⟨(cB 2).trans h.c2.1, (fB 2).trans h.c2.2⟩, c3 := (cB 3).trans h.c3, c4 := ⟨(cB 4).trans h.c4.1, (fB 4).trans h.c4.2⟩
    wk := fun k hk => ⟨⟨(cW _).trans (h.wk k hk).1.1, (fW _).trans (h.wk k hk).1.2⟩, (cW _).trans (h.wk k hk).2.1, (fW _).trans (h.wk k hk).2.2⟩
    row := ownsRow_same h.row (fun g hg => hc.block g (h.row.lt g hg).2 (fun e => hM _ e (.inr (.inr (.inr hg)))))
    mp := h.mp.same (hc.block bm h.mp.lt (fun e => hM _ e (.inr (.inr (.inl rfl)))))
    nw := h.nw, nr := h.nr }
theorem Ep.later (h : Ep w B bw bm n lv x) (hp : 1 ≤ x.rc.length) (hb : Below w.heap.size w w') : Ep w' B bw bm n lv x := h.chg hp (M := fun _ => False) (Chg.of_below hb) (fun _ e => e.elim)
theorem Ep.more (h : Ep w B bw bm n lv x) {n' : Nat} (hn : n ≤ n') : Ep w B bw bm n' lv x := { h with mp := h.mp.mono hn }
/-- A cell of the row is written: the epoch, or how many were looked at. -/
theorem Ep.setRow (h : Ep w B bw bm n lv x) {e lk : Nat} {o : Nat} {v : Value} (ho : (o = 0 ∧ v = .int .i64 (e : Int) ∧ lk = x.lk) ∨ (o = 4 ∧ v = .int .i64 (lk : Int) ∧ e = x.e)) :
    Ep (w.setCell ⟨B, o, none⟩ v) B bw bm n lv { x with e := e, lk := lk } := by
  have q : ∀ b, b ≠ B → (w.setCell ⟨B, o, none⟩ v).heap[b]? = w.heap[b]? := fun b hb => Below.heap_setCell _ _ _ _ hb
  have co : ∀ j, o ≠ j → (w.setCell ⟨B, o, none⟩ v).cell? ⟨B, j, none⟩ = w.cell? ⟨B, j, none⟩ := fun j hj => World.cell?_setCell_other _ _ _ _ (fun e => hj (by injection e))
  have f : ∀ a, (w.setCell ⟨B, o, none⟩ v).frozen? a = w.frozen? a := fun a => World.frozen?_setCell _ _ _ _
  have cW : ∀ j, (w.setCell ⟨B, o, none⟩ v).cell? ⟨bw, j, none⟩ = w.cell? ⟨bw, j, none⟩ := fun j => World.cell?_of_block (w := w) (q bw h.nw)
  have h124 : o ≠ 1 ∧ o ≠ 2 ∧ o ≠ 3 := by rcases ho with ⟨rfl, _⟩ | ⟨rfl, _⟩ <;> decide
  refine {
    c0 := ⟨?_, (f _).trans h.c0.2⟩, c1 := (co 1 h124.1).trans h.c1, c2 := ⟨(co 2 h124.2.1).trans h.c2.1, (f _).trans h.c2.2⟩, c3 := (co 3 h124.2.2).trans h.c3, c4 := ⟨?_, (f _).trans h.c4.2⟩
    wk := fun k hk => ⟨⟨(cW _).trans (h.wk k hk).1.1, (f _).trans (h.wk k hk).1.2⟩, (cW _).trans (h.wk k hk).2.1, (f _).trans (h.wk k hk).2.2⟩
    row := ownsRow_same h.row (fun g hg => q g (h.nr g hg).1)
    mp := h.mp.same (q bm (fun e => h.mp.not_cell h.c0.1 e.symm)), nw := h.nw, nr := h.nr }
  · rcases ho with ⟨rfl, rfl, _⟩ | ⟨rfl, _, rfl⟩
    · exact World.cell?_setCell_same _ _ _ h.c0.1
    · exact (co 0 (by decide)).trans h.c0.1
  · rcases ho with ⟨rfl, _, rfl⟩ | ⟨rfl, rfl, _⟩
    · exact (co 4 (by decide)).trans h.c4.1
    · exact World.cell?_setCell_same _ _ _ h.c4.1
/-- A worker's cell is written: what it loaded, or its record. -/
theorem Ep.setWork (h : Ep w B bw bm n lv x) {k : Nat} (hk : k < x.rc.length) (hl : x.ld.length = x.rc.length) {v : Nat} {ld rc : List Nat} {o : Nat} (ho : (o = k * 2 ∧ ld = x.ld.set k v ∧ rc = x.rc) ∨ (o = k * 2 + 1 ∧ ld = x.ld ∧ rc = x.rc.set k v)) :
    Ep (w.setCell ⟨bw, o, none⟩ (.int .i64 (v : Int))) B bw bm n lv { x with ld := ld, rc := rc } := by
  have q : ∀ b, b ≠ bw → (w.setCell ⟨bw, o, none⟩ (.int .i64 (v : Int))).heap[b]? = w.heap[b]? := fun b hb => Below.heap_setCell _ _ _ _ hb
  have co : ∀ j, o ≠ j → (w.setCell ⟨bw, o, none⟩ (.int .i64 (v : Int))).cell? ⟨bw, j, none⟩ = w.cell? ⟨bw, j, none⟩ := fun j hj => World.cell?_setCell_other _ _ _ _ (fun e => hj (by injection e))
  have f : ∀ a, (w.setCell ⟨bw, o, none⟩ (.int .i64 (v : Int))).frozen? a = w.frozen? a := fun a => World.frozen?_setCell _ _ _ _
  have cB : ∀ j, (w.setCell ⟨bw, o, none⟩ (.int .i64 (v : Int))).cell? ⟨B, j, none⟩ = w.cell? ⟨B, j, none⟩ := fun j => World.cell?_of_block (w := w) (q B (fun e => h.nw e.symm))
  have hrl : rc.length = x.rc.length := by rcases ho with ⟨_, _, rfl⟩ | ⟨_, _, rfl⟩ <;> simp
  refine {
    c0 := ⟨(cB 0).trans h.c0.1, (f _).trans h.c0.2⟩, c1 := ?_, c2 := ⟨(cB 2).trans h.c2.1, (f _).trans h.c2.2⟩, c3 := (cB 3).trans h.c3, c4 := ⟨(cB 4).trans h.c4.1, (f _).trans h.c4.2⟩
    wk := fun j hj => ?_
    row := ownsRow_same h.row (fun g hg => q g (h.nr g hg).2)
    mp := h.mp.same (q bm (fun e => h.mp.not_cell (h.wk k hk).1.1 e.symm)), nw := h.nw, nr := h.nr }
  · show _ = some (Value.slice (some ⟨bw, 0, none⟩) rc.length rc.length)
    rw [hrl]
    exact (cB 1).trans h.c1
  · have hj' : j < x.rc.length := by rw [← hrl]; exact hj
    obtain ⟨⟨w1, w2⟩, w3, w4⟩ := h.wk j hj'
    show (_ = some (Value.int .i64 (ld.getD j 0 : Nat)) ∧ _) ∧ _ = some (Value.int .i64 (rc.getD j 0 : Nat)) ∧ _
    rcases ho with ⟨rfl, rfl, rfl⟩ | ⟨rfl, rfl, rfl⟩
    · refine ⟨⟨?_, (f _).trans w2⟩, (co _ (by omega)).trans w3, (f _).trans w4⟩
      rw [getD_set]
      by_cases e : j = k
      · subst e
        rw [if_pos ⟨rfl, by omega⟩]
        exact World.cell?_setCell_same _ _ _ w1
      · rw [if_neg (fun h => e h.1)]
        exact (co _ (by omega)).trans w1
    · refine ⟨⟨(co _ (by omega)).trans w1, (f _).trans w2⟩, ?_, (f _).trans w4⟩
      rw [getD_set]
      by_cases e : j = k
      · subst e
        rw [if_pos ⟨rfl, by omega⟩]
        exact World.cell?_setCell_same _ _ _ w3
      · rw [if_neg (fun h => e h.1)]
        exact (co _ (by omega)).trans w3
end

end Go.Proofs.Ytdgmcaehadigaaa
