/- The deeds of a watch come in: rows of three numbers (JustMem's first part, by itself: without RaceJust's rows). -/
import Derived.Test.YtdgmcaehadigaaaRacOwn
import Derived.Test.YtdgmcaehadigaaaLaw
import Derived.Deep.Strs
import Derived.Deep.Slices
namespace Go.Proofs.Ytdgmcaehadigaaa
open Go.ChangeShapes Go.WideShapes Go.ChangeAt Go.RowKit Go.Joins Go.Deep

/-- Deeds in memory, in blocks below B: three cells each. -/
def DdD (w : World) (B : Nat) (A : Option Addr) (ds : List D3) : Prop :=
  ∀ k d, ds[k]? = some d → ∃ b off, A = some ⟨b, off, none⟩ ∧ b < B ∧ w.cell? ⟨b, off + k * 3, none⟩ = some (.int .i64 d.1.1) ∧ w.cell? ⟨b, off + k * 3 + 1, none⟩ = some (.int .i64 d.1.2) ∧ w.cell? ⟨b, off + k * 3 + 2, none⟩ = some (.int .i64 d.2)
theorem DdD.below {w w' : World} {B : Nat} {A : Option Addr} {ds : List D3} (h : DdD w B A ds) (hb : Below B w w') : DdD w' B A ds := fun k d hd => by
  obtain ⟨b, off, hA, hlt, h0, h1, h2⟩ := h k d hd
  exact ⟨b, off, hA, hlt, (hb.cell (p := ⟨b, off + k * 3, none⟩) hlt).trans h0, (hb.cell (p := ⟨b, off + k * 3 + 1, none⟩) hlt).trans h1, (hb.cell (p := ⟨b, off + k * 3 + 2, none⟩) hlt).trans h2⟩

/-- A list out of what holds at each place. -/
theorem list_of {α : Type} {F : Nat → α → Prop} : ∀ n : Nat, (∀ i, i < n → ∃ z, F i z) → ∃ L : List α, L.length = n ∧ ∀ (k : Nat) (z : α), L[k]? = some z → F k z
  | 0, _ => ⟨[], rfl, fun k z h => by simp at h⟩
  | n + 1, H => by
    obtain ⟨L, hl, hL⟩ := list_of n fun i hi => H i (by omega)
    obtain ⟨z, hz⟩ := H n (by omega)
    refine ⟨L ++ [z], by simp [hl], fun k y hk => ?_⟩
    rcases Nat.lt_trichotomy k n with h | h | h
    · rw [List.getElem?_append_left (by omega)] at hk
      exact hL k y hk
    · subst h
      rw [List.getElem?_append_right (by omega), hl, Nat.sub_self] at hk
      simp at hk
      subst hk
      exact hz
    · rw [List.getElem?_eq_none (by simp; omega)] at hk
      cases hk

section
variable {H : Type} {enc : TypeId × Value → H} {P : Program} {w : World} {base : Nat}
/-- A slice of elements of m cells: where each lies, and that it reads. -/
theorem open_elems {t e : TypeId} {m : Nat} {v : Value} {d : DataW H} {p : List MemPlace} (ht : P.underlying t = some (.slice e)) (hC : P.cellsOf e = m) (hm : 0 < m)
    (hv : Value.okWide P w .any base t v) (h : DataW.Trod enc P w 0 (fun _ => true) true t v d p) :
    ∃ (A : Option Addr) (n c : Nat), v = .slice A n c ∧ n ≤ c ∧ n ≤ 9223372036854775807 ∧ (A = none → c = 0) ∧ c ≤ 9223372036854775807 ∧
      ∀ i, i < n → ∃ (b off : Nat) (cs : List Value) (f : Nat) (y : DataW H × List MemPlace), A = some ⟨b, off, none⟩ ∧ b < w.heap.size ∧ cs.length = m ∧ (∀ j, j < m → w.cell? ⟨b, off + i * m + j, none⟩ = cs[j]?) ∧ DataW.trod enc P w 0 (fun _ => true) true f e cs = some y := by
  obtain ⟨a0, n, c, rfl⟩ := okWide_slice ht hv
  obtain ⟨fuel, hf⟩ := h
  rcases open_slice ht hf with ⟨hcs, _⟩ | ⟨a, len, cap, m', n', D, Pl, hcs, _, hl, hmx, hmm, _, hi⟩
  · simp [Value.cells] at hcs
    obtain ⟨rfl, rfl, rfl⟩ := hcs
    exact ⟨none, 0, 0, rfl, Nat.le_refl _, by omega, fun _ => rfl, by omega, fun i h => by omega⟩
  · simp [Value.cells] at hcs
    obtain ⟨rfl, rfl, rfl⟩ := hcs
    simp only [if_true] at hmm
    subst hmm
    unfold maxLen at hmx
    refine ⟨some a, _, _, rfl, hl, by omega, (fun h => by cases h), hmx, fun i hin => ?_⟩
    obtain ⟨cs', hc, hd⟩ := hi i (by omega)
    rw [hC] at hc
    obtain ⟨_, hcl, hat⟩ := World.cells?_some hc
    obtain ⟨b, off, spot⟩ := a
    have hs : spot = none := by
      obtain ⟨cs0, hc0, _⟩ := hi 0 (by omega)
      rw [hC] at hc0
      obtain ⟨_, hcl0, hat0⟩ := World.cells?_some hc0
      have h0 := hat0 0 hm
      rw [List.getElem?_eq_getElem (by omega)] at h0
      simpa [Addr.add] using World.cell?_spot h0
    subst hs
    refine ⟨b, off, cs', n', (D i, Pl i), rfl, ?_, hcl, fun j hj => ?_, hd⟩
    · have h0 := hat 0 hm
      rw [List.getElem?_eq_getElem (by omega), add_plain, add_plain] at h0
      exact World.block_lt_of_cell? w _ h0
    · have := hat j hj
      rwa [add_plain, add_plain] at this

theorem open_deeds18 {t e : TypeId} {f0 f1 f2 : Field} {v : Value} {d : DataW H} {p : List MemPlace} (ht : P.underlying t = some (.slice e)) (hd : P.underlying e = some (.struct #[f0, f1, f2])) (hC : P.cellsOf e = 3)
    (hone : oneCellFields P #[f0, f1, f2] = true) (u0 : P.underlying f0.type = some (.int .i64)) (u1 : P.underlying f1.type = some (.int .i64)) (u2 : P.underlying f2.type = some (.int .i64))
    (hv : Value.okWide P w .any base t v) (h : DataW.Trod enc P w 0 (fun _ => true) true t v d p) :
    ∃ (A : Option Addr) (zs : List D3) (c : Nat), v = .slice A zs.length c ∧ DdD w w.heap.size A zs ∧ (∀ x ∈ zs, IsI x.2) ∧ zs.length ≤ c ∧ c ≤ 9223372036854775807 ∧ (A = none → c = 0) := by
  obtain ⟨A, n, c, rfl, hnc, hn, hA, hc, hel⟩ := open_elems ht hC (by omega) hv h
  have H1 : ∀ i, i < n → ∃ z : D3, (∃ b off, A = some ⟨b, off, none⟩ ∧ b < w.heap.size ∧ w.cell? ⟨b, off + i * 3, none⟩ = some (.int .i64 z.1.1) ∧ w.cell? ⟨b, off + i * 3 + 1, none⟩ = some (.int .i64 z.1.2) ∧ w.cell? ⟨b, off + i * 3 + 2, none⟩ = some (.int .i64 z.2)) ∧ IsI z.2 := by
    intro i hi
    obtain ⟨b, off, cs, f, y, rfl, hb, hl, hcell, hy⟩ := hel i hi
    match cs, hl with
    | [c0, c1, c2], _ =>
      obtain ⟨xs, n', _, _, _, hlen, hg⟩ := DataW.trod_struct hd hy
      obtain ⟨o0, k0⟩ := hone_of hone 0 f0 rfl
      obtain ⟨o1, k1⟩ := hone_of hone 1 f1 rfl
      obtain ⟨o2, k2⟩ := hone_of hone 2 f2 rfl
      match xs, hlen with
      | [y0, y1, y2], _ =>
        have e0 : DataW.trod enc P w 0 (fun _ => true) true n' f0.type [c0] = some y0 := by simpa [o0, k0] using hg 0 f0 rfl
        have e1 : DataW.trod enc P w 0 (fun _ => true) true n' f1.type [c1] = some y1 := by simpa [o1, k1] using hg 1 f1 rfl
        have e2 : DataW.trod enc P w 0 (fun _ => true) true n' f2.type [c2] = some y2 := by simpa [o2, k2] using hg 2 f2 rfl
        obtain ⟨a, ha, _, _⟩ := DataW.trod_int u0 e0
        obtain ⟨b2, hb2, _, _⟩ := DataW.trod_int u1 e1
        obtain ⟨c3, hc3, _, wf⟩ := DataW.trod_int u2 e2
        simp at ha hb2 hc3
        subst ha hb2 hc3
        exact ⟨((a, b2), c3), ⟨b, off, rfl, hb, hcell 0 (by omega), hcell 1 (by omega), hcell 2 (by omega)⟩, wf⟩
  obtain ⟨zs, hlen, hzs⟩ := list_of n H1
  subst hlen
  refine ⟨A, zs, c, rfl, fun k d hd => (hzs k d hd).1, fun x hx => ?_, hnc, hc, hA⟩
  obtain ⟨k, hk, hkx⟩ := List.mem_iff_getElem.1 hx
  exact (hzs k x (by rw [List.getElem?_eq_getElem hk, hkx])).2
end

end Go.Proofs.Ytdgmcaehadigaaa
