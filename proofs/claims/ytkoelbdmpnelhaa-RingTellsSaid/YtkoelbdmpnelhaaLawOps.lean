/- Lists of operations come in, nil or not. -/
import Derived.Test.YtkoelbdmpnelhaaLaw
import Derived.Test.YtkoelbdmpnelhaaRingPut
import Derived.Deep.Slices
namespace Go.Proofs.Ytkoelbdmpnelhaa
open Go.ChangeShapes Go.WideShapes Go.ChangeAt Go.RowKit Go.Joins Go.Deep

/-- A list out of what holds at each place. -/
theorem list_ofO {α : Type} {F : Nat → α → Prop} : ∀ n : Nat, (∀ i, i < n → ∃ z, F i z) → ∃ L : List α, L.length = n ∧ ∀ (k : Nat) (z : α), L[k]? = some z → F k z
  | 0, _ => ⟨[], rfl, fun k z h => by simp at h⟩
  | n + 1, H => by
    obtain ⟨L, hl, hL⟩ := list_ofO n fun i hi => H i (by omega)
    obtain ⟨z, hz⟩ := H n (by omega)
    refine ⟨L ++ [z], by simp [hl], fun k y hk => ?_⟩
    rcases Nat.lt_trichotomy k n with h | h | h
    · rw [List.getElem?_append_left (by omega)] at hk
      exact hL k y hk
    · subst h
      rw [List.getElem?_append_right (by omega), hl, Nat.sub_self] at hk
      simp at hk
      subst hk
      exact hz
    · rw [List.getElem?_eq_none (by simp; omega)] at hk
      cases hk

section
variable {H : Type} {enc : TypeId × Value → H} {P : Program} {w : World} {base : Nat}

/-- A slice of elements of m cells: where each lies, and that it reads. -/
theorem open_elemsO {t e : TypeId} {m : Nat} {v : Value} {d : DataW H} {p : List MemPlace} (ht : P.underlying t = some (.slice e)) (hC : P.cellsOf e = m) (hm : 0 < m)
    (hv : Value.okWide P w .any base t v) (h : DataW.Trod enc P w 0 (fun _ => true) true t v d p) :
    ∃ (A : Option Addr) (n c : Nat), v = .slice A n c ∧ n ≤ c ∧ n ≤ 9223372036854775807 ∧ (A = none → c = 0) ∧ c ≤ 9223372036854775807 ∧
      ∀ i, i < n → ∃ (b off : Nat) (cs : List Value) (f : Nat) (y : DataW H × List MemPlace), A = some ⟨b, off, none⟩ ∧ b < w.heap.size ∧ cs.length = m ∧ (∀ j, j < m → w.cell? ⟨b, off + i * m + j, none⟩ = cs[j]?) ∧ DataW.trod enc P w 0 (fun _ => true) true f e cs = some y := by
  obtain ⟨a0, n, c, rfl⟩ := okWide_slice ht hv
  obtain ⟨fuel, hf⟩ := h
  rcases open_slice ht hf with ⟨hcs, _⟩ | ⟨a, len, cap, m', n', D, Pl, hcs, _, hl, hmx, hmm, _, hi⟩
  · simp [Value.cells] at hcs
    obtain ⟨rfl, rfl, rfl⟩ := hcs
    exact ⟨none, 0, 0, rfl, Nat.le_refl _, by omega, fun _ => rfl, by omega, fun i h => by omega⟩
  · simp [Value.cells] at hcs
    obtain ⟨rfl, rfl, rfl⟩ := hcs
    simp only [if_true] at hmm
    subst hmm
    unfold maxLen at hmx
    refine ⟨some a, _, _, rfl, hl, by omega, (fun h => by cases h), hmx, fun i hin => ?_⟩
    obtain ⟨cs', hc, hd⟩ := hi i (by omega)
    rw [hC] at hc
    obtain ⟨_, hcl, hat⟩ := World.cells?_some hc
    obtain ⟨b, off, spot⟩ := a
    have hs : spot = none := by
      obtain ⟨cs0, hc0, _⟩ := hi 0 (by omega)
      rw [hC] at hc0
      obtain ⟨_, hcl0, hat0⟩ := World.cells?_some hc0
      have h0 := hat0 0 hm
      rw [List.getElem?_eq_getElem (by omega)] at h0
      simpa [Addr.add] using World.cell?_spot h0
    subst hs
    refine ⟨b, off, cs', n', (D i, Pl i), rfl, ?_, hcl, fun j hj => ?_, hd⟩
    · have h0 := hat 0 hm
      rw [List.getElem?_eq_getElem (by omega), add_plain, add_plain] at h0
      exact World.block_lt_of_cell? w _ h0
    · have := hat j hj
      rwa [add_plain, add_plain] at this


/-- A slice that reads is one. -/
theorem slice_of_trod {t e : TypeId} {f : Nat} {c1 : Value} {y : DataW H × List MemPlace} (ht : P.underlying t = some (.slice e)) (hf : DataW.trod enc P w 0 (fun _ => true) true f t [c1] = some y) : ∃ (A : Option Addr) (n c : Nat), c1 = .slice A n c := by
  rcases open_slice ht hf with ⟨hcs, _⟩ | ⟨a, len, cap, m', n', D, Pl, hcs, _⟩
  · simp at hcs
    exact ⟨none, 0, 0, hcs⟩
  · simp at hcs
    exact ⟨some a, len, cap, hcs⟩
theorem open_ops {t e q6 q : TypeId} {f0 f1 f2 f3 f4 f5 f6 f7 g0 g1 g2 : Field} {v : Value} {d : DataW H} {p : List MemPlace} (ht : P.underlying t = some (.slice e)) (hd : P.underlying e = some (.struct #[f0, f1, f2, f3, f4, f5, f6, f7])) (hC : P.cellsOf e = 10)
    (o0 : f0.offset = 0) (k0 : P.cellsOf f0.type = 1)    (o1 : f1.offset = 1) (k1 : P.cellsOf f1.type = 1)    (o2 : f2.offset = 2) (k2 : P.cellsOf f2.type = 1)
    (o3 : f3.offset = 3) (k3 : P.cellsOf f3.type = 1)    (o4 : f4.offset = 4) (k4 : P.cellsOf f4.type = 1)    (o5 : f5.offset = 5) (k5 : P.cellsOf f5.type = 1)
    (o6 : f6.offset = 6) (k6 : P.cellsOf f6.type = 1)    (o7 : f7.offset = 7) (k7 : P.cellsOf f7.type = 3)
    (u0 : P.underlying f0.type = some (.int .i64))    (u1 : P.underlying f1.type = some (.int .i64))    (u2 : P.underlying f2.type = some (.int .i64))    (u3 : P.underlying f3.type = some (.int .i64))    (u4 : P.underlying f4.type = some (.int .i64))
    (u5 : P.underlying f5.type = some (.int .u64)) (u6 : P.underlying f6.type = some (.slice q6)) (hs : P.underlying f7.type = some (.struct #[g0, g1, g2])) (hone : oneCellFields P #[g0, g1, g2] = true)
    (w0 : P.underlying g0.type = some (.int .u64)) (w1 : P.underlying g1.type = some (.slice q)) (w2 : P.underlying g2.type = some (.int .u64))
    (hv : Value.okWide P w .any base t v) (h : DataW.Trod enc P w 0 (fun _ => true) true t v d p) :
    ∃ (A : Option Addr) (zs : List OpG) (c : Nat), v = .slice A zs.length c ∧ RdG w w.heap.size A zs ∧ zs.length ≤ c ∧ c ≤ 9223372036854775807 ∧ (A = none → c = 0) := by
  obtain ⟨A, n, c, rfl, hnc, hn, hA, hc, hel⟩ := open_elemsO ht hC (by omega) hv h
  have H1 : ∀ i, i < n → ∃ z : OpG, ∃ b off, A = some ⟨b, off, none⟩ ∧ b < w.heap.size ∧ ∀ j u, (cellG z)[j]? = some u → w.cell? ⟨b, off + i * 10 + j, none⟩ = some u := by
    intro i hi
    obtain ⟨b, off, cs, f, y, rfl, hb, hl, hcell, hy⟩ := hel i hi
    match cs, hl with
    | [c0, c1, c2, c3, c4, c5, c6, c7, c8, c9], _ =>
      obtain ⟨ys, n', _, _, _, hylen, hyg⟩ := DataW.trod_struct hd hy
      match ys, hylen with
      | [z0, z1, z2, z3, z4, z5, z6, z7], _ =>
        have e0 : DataW.trod enc P w 0 (fun _ => true) true n' f0.type [c0] = some z0 := by simpa [o0, k0] using hyg 0 f0 rfl
        have e1 : DataW.trod enc P w 0 (fun _ => true) true n' f1.type [c1] = some z1 := by simpa [o1, k1] using hyg 1 f1 rfl
        have e2 : DataW.trod enc P w 0 (fun _ => true) true n' f2.type [c2] = some z2 := by simpa [o2, k2] using hyg 2 f2 rfl
        have e3 : DataW.trod enc P w 0 (fun _ => true) true n' f3.type [c3] = some z3 := by simpa [o3, k3] using hyg 3 f3 rfl
        have e4 : DataW.trod enc P w 0 (fun _ => true) true n' f4.type [c4] = some z4 := by simpa [o4, k4] using hyg 4 f4 rfl
        have e5 : DataW.trod enc P w 0 (fun _ => true) true n' f5.type [c5] = some z5 := by simpa [o5, k5] using hyg 5 f5 rfl
        have e6 : DataW.trod enc P w 0 (fun _ => true) true n' f6.type [c6] = some z6 := by simpa [o6, k6] using hyg 6 f6 rfl
        have e7 : DataW.trod enc P w 0 (fun _ => true) true n' f7.type [c7, c8, c9] = some z7 := by simpa [o7, k7] using hyg 7 f7 rfl
        obtain ⟨x0, hx0, _, _⟩ := DataW.trod_int u0 e0
        obtain ⟨x1, hx1, _, _⟩ := DataW.trod_int u1 e1
        obtain ⟨x2, hx2, _, _⟩ := DataW.trod_int u2 e2
        obtain ⟨x3, hx3, _, _⟩ := DataW.trod_int u3 e3
        obtain ⟨x4, hx4, _, _⟩ := DataW.trod_int u4 e4
        obtain ⟨x5, hx5, _, _⟩ := DataW.trod_int u5 e5
        obtain ⟨lA, ln, lc, rfl⟩ := slice_of_trod u6 e6
        obtain ⟨xs, n'', _, _, _, hlen, hg⟩ := DataW.trod_struct hs e7
        obtain ⟨p0, r0⟩ := hone_of hone 0 g0 rfl
        obtain ⟨p1, r1⟩ := hone_of hone 1 g1 rfl
        obtain ⟨p2, r2⟩ := hone_of hone 2 g2 rfl
        match xs, hlen with
        | [y0, y1, y2], _ =>
          have d0 : DataW.trod enc P w 0 (fun _ => true) true n'' g0.type [c7] = some y0 := by simpa [p0, r0] using hg 0 g0 rfl
          have d1 : DataW.trod enc P w 0 (fun _ => true) true n'' g1.type [c8] = some y1 := by simpa [p1, r1] using hg 1 g1 rfl
          have d2 : DataW.trod enc P w 0 (fun _ => true) true n'' g2.type [c9] = some y2 := by simpa [p2, r2] using hg 2 g2 rfl
          obtain ⟨ii, hii, _, _⟩ := DataW.trod_int w0 d0
          obtain ⟨tg, htg, _, _⟩ := DataW.trod_int w2 d2
          obtain ⟨vA, vn, vc, rfl⟩ := slice_of_trod w1 d1
          simp at hii htg hx0 hx1 hx2 hx3 hx4 hx5
          subst hii htg hx0 hx1 hx2 hx3 hx4 hx5
          refine ⟨⟨x0, x1, x2, x3, x4, x5, lA, ln, lc, ii, vA, vn, vc, tg⟩, b, off, rfl, hb, fun j u hj => ?_⟩
          have hj10 : j < 10 := (List.getElem?_eq_some_iff.1 hj).1
          exact (hcell j hj10).trans hj
  obtain ⟨zs, hlen, hzs⟩ := list_ofO n H1
  subst hlen
  exact ⟨A, zs, c, rfl, hzs, hnc, hc, hA⟩
end

end Go.Proofs.Ytkoelbdmpnelhaa
