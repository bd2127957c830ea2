/- A map from ids to refs in memory: its row, its shards. -/
import Derived.Test.YtoaikdnooafjmaaImPlain
import Derived.Test.YtoaikdnooafjmaaRacAt
import Derived.Maps.RangeWalk
namespace Go.Proofs.Ytoaikdnooafjmaa
open Go.RowKit Go.Maps Go.ChangeMaps Go.MapKept

theorem law_u64 : Keyed Try.prog 118 := int_keyed Try.underlying118
theorem key_u64 {x : Int} (h : IsU x) : keyOf Try.prog 118 (.int .u64 x) = some (.int .u64 x) := keyOf_int_mk Try.underlying118 h
theorem under_ids : Try.prog.underlying 211 = some (.map 118 99) := Try.underlying211
theorem zero_ref (w : World) : (zeroValue 99).run Try.prog w = .ok (.agg #[.int .i64 0, .int .i64 0]) w := by kernel_rfl
def refV (r : RefT) : Value := .agg #[.int .i64 r.1, .int .i64 r.2]
theorem IsU.lt {x : Int} (h : IsU x) : 0 ≤ x ∧ x < 18446744073709551616 := by
  unfold IsU at h
  have h2 : IntKind.u64.min ≤ x ∧ x ≤ IntKind.u64.max := by simpa [Lit.wf] using h
  have e1 : IntKind.u64.min = 0 := by decide
  have e2 : IntKind.u64.max = 18446744073709551615 := by decide
  omega

/-- Block b is a map of at most m entries; f tells what each id has; there are sz. -/
def MapW (w : World) (b m : Nat) (f : Int → Option RefT) (sz : Nat) : Prop :=
  ∃ D : DataW Value, w.ownsMap Try.prog 118 valR b m D ∧ (∀ k, IsU k → Maps.has D (.int .u64 k) = (f k).isSome ∧ D.atKey (.int .u64 k) (.held (refV (0, 0))) = .held (refV ((f k).getD (0, 0)))) ∧ Maps.size D = sz
theorem litU_ne {k x : Int} (e : k ≠ x) : Lit.int .u64 k ≠ Lit.int .u64 x := fun h => e (by injection h)
theorem isKeyU (k : Int) : WideAt.IsKeyLit (.int .u64 k) := trivial
section
variable {w w' : World} {b m sz : Nat} {f : Int → Option RefT}
theorem MapW.made (w : World) : MapW (w.alloc (.map #[] 0)) w.heap.size 0 (fun _ => none) 0 :=
  ⟨.map [], World.ownsMap_made w _ _ _, fun _ _ => ⟨rfl, rfl⟩, rfl⟩
theorem MapW.mono (h : MapW w b m f sz) {m' : Nat} (hn : m ≤ m') : MapW w b m' f sz := let ⟨D, h1, h2⟩ := h; ⟨D, h1.mono hn, h2⟩
theorem MapW.lt (h : MapW w b m f sz) : b < w.heap.size := let ⟨_, h1, _⟩ := h; h1.lt
theorem MapW.same (h : MapW w b m f sz) (hs : w'.heap[b]? = w.heap[b]?) : MapW w' b m f sz := by
  obtain ⟨D, ⟨es, clock, hb, r⟩, h2⟩ := h
  exact ⟨D, ⟨es, clock, hs.trans hb, r⟩, h2⟩
theorem MapW.not_cell (h : MapW w b m f sz) {c : Nat} {o : Nat} {v : Value} (hc : w.cell? ⟨c, o, none⟩ = some v) : c ≠ b := by
  obtain ⟨D, ⟨es, clock, hb, r⟩, h2⟩ := h
  intro e
  subst e
  simp [World.cell?, hb] at hc
theorem MapW.eq (h : MapW w b m f sz) {f' : Int → Option RefT} {sz' : Nat} (he : ∀ k, IsU k → f k = f' k) (hs : sz = sz') : MapW w b m f' sz' := by
  subst hs
  obtain ⟨D, h1, h2, h3⟩ := h
  exact ⟨D, h1, fun k hk => by rw [← he k hk]; exact h2 k hk, h3⟩
theorem MapW.look (h : MapW w b m f sz) {x : Int} (hx : IsU x) :
    (Instr.lookup 211 (.map (some b)) (.int .u64 x) true).run Try.prog w = .ok (.tuple #[refV ((f x).getD (0, 0)), .bool (f x).isSome]) w := by
  obtain ⟨D, h1, h2, _⟩ := h
  obtain ⟨v, ps, hrun, hv⟩ := h1.look_ok law_u64 under_ids (zero_ref w) (zd := .held (refV (0, 0))) (zp := []) rfl (key_u64 hx)
  obtain ⟨e1, e2⟩ := h2 x hx
  rw [e2] at hv
  have : v = refV ((f x).getD (0, 0)) := by
    simp only [valR, Option.some.injEq, Prod.mk.injEq, DataW.held.injEq] at hv
    exact hv.1
  rw [← this, ← e1]
  exact hrun
theorem MapW.len (h : MapW w b m f sz) (ty : TypeId) : (Builtin.len_ #[211] ty #[.map (some b)]).run Try.prog w = .ok (.int .i64 (sz : Nat)) w := by
  obtain ⟨D, h1, _, rfl⟩ := h
  exact h1.len under_ids ty
theorem MapW.put (h : MapW w b m f sz) (hn : m < maxLen) {x : Int} (hx : IsU x) (r : RefT) (hf : f x = none) :
    ∃ w', (Instr.mapUpdate 211 (.map (some b)) (.int .u64 x) (refV r)).run Try.prog w = .ok () w' ∧ MapW w' b (m + 1) (fun k => if k = x then some r else f k) (sz + 1) ∧ w.mapTurned w' b := by
  obtain ⟨D, h1, h2, h3⟩ := h
  obtain ⟨w', hrun, h4, h5⟩ := h1.store law_u64 under_ids hn (d := .held (refV r)) (ps := []) (key_u64 hx) rfl
  refine ⟨w', hrun, ⟨_, h4, fun k hk => ?_, ?_⟩, h5⟩
  · show Maps.has _ _ = (if k = x then _ else f k).isSome ∧ DataW.atKey _ _ _ = .held (refV ((if k = x then _ else f k).getD (0, 0)))
    by_cases e : k = x
    · subst e
      rw [if_pos rfl, has_put_same h1.isMap (isKeyU k)]
      exact ⟨rfl, atKey_put_same h1.isMap (isKeyU k) _ _⟩
    · rw [if_neg e, has_put_other (litU_ne e), atKey_put_other (litU_ne e)]
      exact h2 k hk
  · rw [size_put (h1.tidy law_u64), (h2 x hx).1, hf, h3]
    rfl
theorem MapW.drop (h : MapW w b m f sz) {x : Int} (hx : IsU x) (hf : f x ≠ none) :
    ∃ w', (∀ ty, (Builtin.delete_ #[211, 118] ty #[.map (some b), .int .u64 x]).run Try.prog w = .ok (.tuple #[]) w') ∧ MapW w' b m (fun k => if k = x then none else f k) (sz - 1) ∧ w.mapTurned w' b := by
  obtain ⟨D, h1, h2, h3⟩ := h
  have hd := fun ty => h1.drop law_u64 under_ids (key_u64 hx) ty
  obtain ⟨w', hrun, h4, h5⟩ := hd 0
  refine ⟨w', fun ty => hrun, ⟨_, h4, fun k hk => ?_, ?_⟩, h5⟩
  · show Maps.has _ _ = (if k = x then _ else f k).isSome ∧ DataW.atKey _ _ _ = .held (refV ((if k = x then _ else f k).getD (0, 0)))
    by_cases e : k = x
    · subst e
      rw [if_pos rfl, has_del_same]
      refine ⟨rfl, ?_⟩
      exact atKey_of_not_has has_del_same _
    · rw [if_neg e, has_del_other (litU_ne e), atKey_del_other (litU_ne e)]
      exact h2 k hk
  · have := size_del (k := .int .u64 x) (h1.tidy law_u64)
    have hs : (f x).isSome = true := by cases hfx : f x with
      | none => exact absurd hfx hf
      | some r => rfl
    rw [(h2 x hx).1, hs, if_pos rfl, h3] at this
    omega
end

/-- A map lies at B, its row of shards at bs, each shard at bm. -/
structure Im (w : World) (B bs : Nat) (bm : Nat → Nat) (m : Nat) (x : IX) : Prop where
  c0 : w.cell? ⟨B, 0, none⟩ = some (.slice (some ⟨bs, 0, none⟩) x.n x.n)
  c1 : w.cell? ⟨B, 1, none⟩ = some (.int .i64 (x.v : Int)) ∧ w.frozen? ⟨B, 1, none⟩ = false
  sh : ∀ i, i < x.n → w.cell? ⟨bs, i, none⟩ = some (.map (some (bm i)))
  mp : ∀ i, i < x.n → MapW w (bm i) m (fun k => if shI x.n k = i then findI x.L k else none) (cntI x.n x.L i)
  inj : ∀ i j, i < x.n → j < x.n → bm i = bm j → i = j
  ns : bs ≠ B
def ImM (B bs : Nat) (bm : Nat → Nat) (n b : Nat) : Prop := b = B ∨ b = bs ∨ ∃ i, i < n ∧ bm i = b
theorem cellI_lt {w : World} {p : Addr} {v : Value} (h : w.cell? p = some v) : p.block < w.heap.size := by
  unfold World.cell? at h
  cases hb : w.heap[p.block]? with
  | none => rw [hb] at h; simp at h
  | some o => exact (Array.getElem?_eq_some_iff.1 hb).1
section
variable {w w' : World} {M : Nat → Prop} {B bs m : Nat} {bm : Nat → Nat} {x : IX}
theorem Im.lt (h : Im w B bs bm m x) (hp : 1 ≤ x.n) {b : Nat} (hb : ImM B bs bm x.n b) : b < w.heap.size := by
  rcases hb with rfl | rfl | ⟨i, hi, rfl⟩
  · exact cellI_lt h.c0
  · exact cellI_lt (h.sh 0 hp)
  · exact (h.mp i hi).lt
theorem Im.same (h : Im w B bs bm m x) (hq : ∀ b, ImM B bs bm x.n b → w'.heap[b]? = w.heap[b]?) : Im w' B bs bm m x := by
  have cB : ∀ o, w'.cell? ⟨B, o, none⟩ = w.cell? ⟨B, o, none⟩ := fun o => World.cell?_of_block (w := w) (hq B (.inl rfl))
  have cS : ∀ o, w'.cell? ⟨bs, o, none⟩ = w.cell? ⟨bs, o, none⟩ := fun o => World.cell?_of_block (w := w) (hq bs (.inr (.inl rfl)))
  exact { c0 := (cB 0).trans h.c0, c1 := ⟨(cB 1).trans h.c1.1, (World.frozen?_of_block (w := w) (hq B (.inl rfl))).trans h.c1.2⟩, sh := fun i hi => (cS i).trans (h.sh i hi), mp := fun i hi => (h.mp i hi).same (hq _ (.inr (.inr ⟨i, hi, rfl⟩))), inj := h.inj, ns := h.ns }
theorem Im.chg (h : Im w B bs bm m x) (hp : 1 ≤ x.n) (hc : Chg M w w') (hM : ∀ b, M b → ¬ ImM B bs bm x.n b) : Im w' B bs bm m x :=
  h.same fun b hb => hc.block b (h.lt hp hb) (fun e => hM b e hb)
theorem Im.later (h : Im w B bs bm m x) (hp : 1 ≤ x.n) (hb : Below w.heap.size w w') : Im w' B bs bm m x := h.chg hp (M := fun _ => False) (Chg.of_below hb) (fun _ e => e.elim)
theorem Im.more (h : Im w B bs bm m x) {m' : Nat} (hm : m ≤ m') : Im w B bs bm m' x := { h with mp := fun i hi => (h.mp i hi).mono hm }
/-- A shard has turned, and the version: another map. -/
theorem Im.turn (h : Im w B bs bm m x) {k : Int} {L : List EntI} (hp : 1 ≤ x.n) {w2 : World} (ht : w.mapTurned w2 (bm (shI x.n k))) {f : Int → Option RefT} {sz m' : Nat} (hm : MapW w2 (bm (shI x.n k)) m' f sz) (hmm : m ≤ m')
    (hf : ∀ j, IsU j → f j = if shI x.n j = shI x.n k then findI L j else none) (hsz : sz = cntI x.n L (shI x.n k))
    (ho : ∀ j, j ≠ k → findI L j = findI x.L j) (hc : ∀ i, i ≠ shI x.n k → cntI x.n L i = cntI x.n x.L i) (v : Nat) :
    Im (w2.setCell ⟨B, 1, none⟩ (.int .i64 (v : Int))) B bs bm m' ⟨x.n, L, v⟩ ∧ Chg (ImM B bs bm x.n) w (w2.setCell ⟨B, 1, none⟩ (.int .i64 (v : Int))) := by
  have hs := shI_lt hp k
  have hBm : ∀ i, i < x.n → B ≠ bm i := fun i hi => (h.mp i hi).not_cell h.c0
  have hSm : ∀ i, i < x.n → bs ≠ bm i := fun i hi => (h.mp i hi).not_cell (h.sh 0 hp)
  have g := ht.grown
  have q : ∀ b, b < w.heap.size → b ≠ bm (shI x.n k) → w2.heap[b]? = w.heap[b]? := fun b hb hn => g.block b hb (fun e => hn (by injection e))
  have qB := q B (h.lt hp (.inl rfl)) (hBm _ hs)
  have qS := q bs (h.lt hp (.inr (.inl rfl))) (hSm _ hs)
  have q3 : ∀ b, b ≠ B → (w2.setCell ⟨B, 1, none⟩ (.int .i64 (v : Int))).heap[b]? = w2.heap[b]? := fun b hb => Below.heap_setCell _ _ _ _ hb
  have c2 : ∀ o, w2.cell? ⟨B, o, none⟩ = w.cell? ⟨B, o, none⟩ := fun o => World.cell?_of_block (w := w) qB
  refine ⟨{
    c0 := (World.cell?_setCell_other _ _ _ _ (fun e => by injection e with _ e; cases e)).trans ((c2 0).trans h.c0)
    c1 := ⟨World.cell?_setCell_same _ _ _ ((c2 1).trans h.c1.1), (World.frozen?_setCell _ _ _ _).trans ((World.frozen?_of_block (w := w) qB).trans h.c1.2)⟩
    sh := fun i hi => (World.cell?_of_block (w := w) ((q3 bs h.ns).trans qS)).trans (h.sh i hi)
    mp := fun i hi => ?_, inj := h.inj, ns := h.ns }, ?_⟩
  · have q4 := q3 (bm i) (fun e => hBm i hi e.symm)
    by_cases e : i = shI x.n k
    · subst e
      exact (hm.same q4).eq hf hsz
    · have hne : bm i ≠ bm (shI x.n k) := fun e2 => e (h.inj i _ hi hs e2)
      refine (((h.mp i hi).mono hmm).same (q4.trans (q _ (h.mp i hi).lt hne))).eq (fun j _ => ?_) (hc i e).symm
      show (if shI x.n j = i then findI x.L j else none) = if shI x.n j = i then findI L j else none
      by_cases e2 : shI x.n j = i
      · rw [if_pos e2, if_pos e2, ho j (fun e3 => e (by rw [← e2, e3]))]
      · rw [if_neg e2, if_neg e2]
  · exact (Chg.refl.turned (.inr (.inr ⟨_, hs, rfl⟩)) ht).setCell (.inl rfl) _
end

end Go.Proofs.Ytoaikdnooafjmaa
