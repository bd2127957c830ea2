/- Maps keyed by ints in memory, told as functions: what stands at each key; looked up, written, emptied. -/
import Derived.Test.YtdgmcaehadigaaaClkMem
import Derived.Maps.OwnSet
namespace Go.Proofs.Ytdgmcaehadigaaa
open Go.RowKit Go.Maps Go.ChangeMaps Go.MapKept

theorem law_int : Keyed Try.prog 3 := int_keyed Try.underlying3
/-- An element is told as it stands. -/
def valR (v : Value) : Option (DataW Value × List MemPlace) := some (.held v, [])
/-- May x be an int? -/
def IsI (x : Int) : Prop := (Lit.int .i64 x).wf = true
theorem key_int {x : Int} (h : IsI x) : keyOf Try.prog 3 (.int .i64 x) = some (.int .i64 x) := keyOf_int_mk Try.underlying3 h

/-- Block b is a map of at most n entries, in which m tells what stands at each key (z, where nothing does). -/
def MapV (w : World) (b n : Nat) (z : Value) (m : Int → Value) : Prop :=
  ∃ D : DataW Value, w.ownsMap Try.prog 3 valR b n D ∧ ∀ k, IsI k → D.atKey (.int .i64 k) (.held z) = .held (m k)

section
variable {w w' : World} {b n : Nat} {z : Value} {m : Int → Value}
theorem MapV.made (w : World) (z : Value) : MapV (w.alloc (.map #[] 0)) w.heap.size 0 z (fun _ => z) :=
  ⟨.map [], World.ownsMap_made w _ _ _, fun _ _ => rfl⟩
theorem MapV.mono (h : MapV w b n z m) {n' : Nat} (hn : n ≤ n') : MapV w b n' z m := let ⟨D, h1, h2⟩ := h; ⟨D, h1.mono hn, h2⟩
theorem MapV.lt (h : MapV w b n z m) : b < w.heap.size := let ⟨_, h1, _⟩ := h; h1.lt
theorem MapV.same (h : MapV w b n z m) (hs : w'.heap[b]? = w.heap[b]?) : MapV w' b n z m := by
  obtain ⟨D, ⟨es, clock, hb, r⟩, h2⟩ := h
  exact ⟨D, ⟨es, clock, hs.trans hb, r⟩, h2⟩
/-- A map's block has no cells. -/
theorem MapV.not_cell (h : MapV w b n z m) {c : Nat} {o : Nat} {v : Value} (hc : w.cell? ⟨c, o, none⟩ = some v) : c ≠ b := by
  obtain ⟨D, ⟨es, clock, hb, r⟩, h2⟩ := h
  intro e
  subst e
  simp [World.cell?, hb] at hc
theorem MapV.look (h : MapV w b n z m) {t e : TypeId} (ht : Try.prog.underlying t = some (.map 3 e)) (hz : (zeroValue e).run Try.prog w = .ok z w) {x : Int} (hx : IsI x) :
    (Instr.lookup t (.map (some b)) (.int .i64 x) false).run Try.prog w = .ok (m x) w := by
  obtain ⟨D, h1, h2⟩ := h
  obtain ⟨v, ps, hrun, hv⟩ := h1.lookup law_int ht hz (zd := .held z) (zp := []) rfl (key_int hx)
  rw [h2 x hx] at hv
  have : v = m x := by
    simp only [valR, Option.some.injEq, Prod.mk.injEq, DataW.held.injEq] at hv
    exact hv.1
  rw [← this]
  exact hrun
/-- A map, with v at x. -/
def putV (m : Int → Value) (x : Int) (v : Value) : Int → Value := fun k => if k = x then v else m k
theorem MapV.put (h : MapV w b n z m) {t e : TypeId} (ht : Try.prog.underlying t = some (.map 3 e)) (hn : n < maxLen) {x : Int} (hx : IsI x) (v : Value) :
    ∃ w', (Instr.mapUpdate t (.map (some b)) (.int .i64 x) v).run Try.prog w = .ok () w' ∧ MapV w' b (n + 1) z (putV m x v) ∧ w.mapTurned w' b := by
  obtain ⟨D, h1, h2⟩ := h
  obtain ⟨w', hrun, h3, h4⟩ := h1.store law_int ht hn (d := .held v) (ps := []) (key_int hx) rfl
  refine ⟨w', hrun, ⟨_, h3, fun k hk => ?_⟩, h4⟩
  unfold putV
  by_cases e : k = x
  · subst e
    rw [if_pos rfl]
    exact atKey_put_same h1.isMap (show WideAt.IsKeyLit (.int .i64 k) from trivial) _ _
  · rw [if_neg e, atKey_put_other (fun h => e (by injection h))]
    exact h2 k hk
theorem MapV.clear (h : MapV w b n z m) {t e : TypeId} (ht : Try.prog.underlying t = some (.map 3 e)) :
    ∃ w', (∀ ty, (Builtin.clear_ #[t] ty #[.map (some b)]).run Try.prog w = .ok (.tuple #[]) w') ∧ MapV w' b 0 z (fun _ => z) ∧ w.mapTurned w' b := by
  obtain ⟨D, ⟨es, clock, hb, F, hs, hD⟩, h2⟩ := h
  refine ⟨setBlock w b (.map #[] clock), ?_, ⟨.map [], ⟨#[], clock, heap_setBlock_same hb _, ⟨by simp, stamped_empty clock, by simp⟩, Nat.le_refl _, rfl⟩, fun _ _ => rfl⟩, ⟨es, clock, #[], clock, hb, rfl⟩⟩
  intro ty
  simp [Builtin.clear_, run_underlying ht, MapKept.run_getObj_map hb, MapKept.run_setObj_map _ hb, Result.andThen]
  rfl
end

end Go.Proofs.Ytdgmcaehadigaaa
