/- Lists of structs of three cells come in: of items, of spots; and lists of hits; nil or not. -/
import Derived.Test.YtajmnhnepoomjaaLaw
import Derived.Test.YtajmnhnepoomjaaEdFar
import Derived.Test.YtajmnhnepoomjaaRankOpen
import Derived.Deep.Slices
namespace Go.Proofs.Ytajmnhnepoomjaa
open Go.ChangeShapes Go.WideShapes Go.ChangeAt Go.RowKit Go.Joins Go.Deep

/-- A list out of what holds at each place. -/
theorem list_of {α : Type} {F : Nat → α → Prop} : ∀ n : Nat, (∀ i, i < n → ∃ z, F i z) → ∃ L : List α, L.length = n ∧ ∀ (k : Nat) (z : α), L[k]? = some z → F k z
  | 0, _ => ⟨[], rfl, fun k z h => by simp at h⟩
  | n + 1, H => by
    obtain ⟨L, hl, hL⟩ := list_of n fun i hi => H i (by omega)
    obtain ⟨z, hz⟩ := H n (by omega)
    refine ⟨L ++ [z], by simp [hl], fun k y hk => ?_⟩
    rcases Nat.lt_trichotomy k n with h | h | h
    · rw [List.getElem?_append_left (by omega)] at hk
      exact hL k y hk
    · subst h
      rw [List.getElem?_append_right (by omega), hl, Nat.sub_self] at hk
      simp at hk
      subst hk
      exact hz
    · rw [List.getElem?_eq_none (by simp; omega)] at hk
      cases hk

section
variable {H : Type} {enc : TypeId × Value → H} {P : Program} {w : World} {base : Nat}

/-- A slice of elements of m cells: where each lies, and that it reads. -/
theorem open_elems {t e : TypeId} {m : Nat} {v : Value} {d : DataW H} {p : List MemPlace} (ht : P.underlying t = some (.slice e)) (hC : P.cellsOf e = m) (hm : 0 < m)
    (hv : Value.okWide P w .any base t v) (h : DataW.Trod enc P w 0 (fun _ => true) true t v d p) :
    ∃ (A : Option Addr) (n c : Nat), v = .slice A n c ∧ n ≤ c ∧ n ≤ 9223372036854775807 ∧ (A = none → c = 0) ∧ c ≤ 9223372036854775807 ∧
      ∀ i, i < n → ∃ (b off : Nat) (cs : List Value) (f : Nat) (y : DataW H × List MemPlace), A = some ⟨b, off, none⟩ ∧ b < w.heap.size ∧ cs.length = m ∧ (∀ j, j < m → w.cell? ⟨b, off + i * m + j, none⟩ = cs[j]?) ∧ DataW.trod enc P w 0 (fun _ => true) true f e cs = some y := by
  obtain ⟨a0, n, c, rfl⟩ := okWide_slice ht hv
  obtain ⟨fuel, hf⟩ := h
  rcases open_slice ht hf with ⟨hcs, _⟩ | ⟨a, len, cap, m', n', D, Pl, hcs, _, hl, hmx, hmm, _, hi⟩
  · simp [Value.cells] at hcs
    obtain ⟨rfl, rfl, rfl⟩ := hcs
    exact ⟨none, 0, 0, rfl, Nat.le_refl _, by omega, fun _ => rfl, by omega, fun i h => by omega⟩
  · simp [Value.cells] at hcs
    obtain ⟨rfl, rfl, rfl⟩ := hcs
    simp only [if_true] at hmm
    subst hmm
    unfold maxLen at hmx
    refine ⟨some a, _, _, rfl, hl, by omega, (fun h => by cases h), hmx, fun i hin => ?_⟩
    obtain ⟨cs', hc, hd⟩ := hi i (by omega)
    rw [hC] at hc
    obtain ⟨_, hcl, hat⟩ := World.cells?_some hc
    obtain ⟨b, off, spot⟩ := a
    have hs : spot = none := by
      obtain ⟨cs0, hc0, _⟩ := hi 0 (by omega)
      rw [hC] at hc0
      obtain ⟨_, hcl0, hat0⟩ := World.cells?_some hc0
      have h0 := hat0 0 hm
      rw [List.getElem?_eq_getElem (by omega)] at h0
      simpa [Addr.add] using World.cell?_spot h0
    subst hs
    refine ⟨b, off, cs', n', (D i, Pl i), rfl, ?_, hcl, fun j hj => ?_, hd⟩
    · have h0 := hat 0 hm
      rw [List.getElem?_eq_getElem (by omega), add_plain, add_plain] at h0
      exact World.block_lt_of_cell? w _ h0
    · have := hat j hj
      rwa [add_plain, add_plain] at this

theorem vec_of_trod {t e : TypeId} {f : Nat} {c1 : Value} {y : DataW H × List MemPlace} (ht : P.underlying t = some (.slice e)) (he : P.underlying e = some (.int .i32)) (hc : P.cellsOf e = 1)
    (hf : DataW.trod enc P w 0 (fun _ => true) true f t [c1] = some y) : ∃ (A : Option Addr) (zs : List Int) (c : Nat), c1 = .slice A zs.length c ∧ VecB w w.heap.size A zs := by
  rcases open_ints ht he hc hf with ⟨hcs, _⟩ | ⟨a, len, cap, zs, hcs, _, hl, hm, hz, _, hcell, hwz⟩
  · simp at hcs
    subst hcs
    exact ⟨none, [], 0, rfl, VecB.nil⟩
  · simp at hcs
    subst hcs
    simp only [if_true] at hz
    have hlen : (zs.take len).length = len := by rw [List.length_take]; omega
    refine ⟨some a, zs.take len, cap, by rw [hlen], ?_, by unfold maxLen at hm; rw [hlen]; omega, Lib.hid fun z hz' => bounds_i32 (hwz z (List.mem_of_mem_take hz'))⟩
    intro j z hj
    rw [List.getElem?_take] at hj
    split at hj
    · rename_i hjn
      have hjl : j < zs.length := (List.getElem?_eq_some_iff.1 hj).1
      have hcj := hcell j hjl
      have hz0 : zs.getD j 0 = z := by rw [List.getD_eq_getElem?_getD, hj]; rfl
      rw [hz0] at hcj
      obtain ⟨b, off, spot⟩ := a
      have hs : spot = none := by simpa [Addr.add] using World.cell?_spot (hcell 0 (by omega))
      subst hs
      rw [add_plain] at hcj
      exact ⟨b, off, rfl, World.block_lt_of_cell? w _ hcj, hcj⟩
    · cases hj

theorem open_vecB {t e : TypeId} {v : Value} {d : DataW H} {p : List MemPlace} (ht : P.underlying t = some (.slice e)) (he : P.underlying e = some (.int .i32)) (hc : P.cellsOf e = 1)
    (hv : Value.okWide P w .any base t v) (h : DataW.Trod enc P w 0 (fun _ => true) true t v d p) : ∃ (A : Option Addr) (zs : List Int) (c : Nat), v = .slice A zs.length c ∧ VecB w w.heap.size A zs := by
  obtain ⟨a0, n, c, rfl⟩ := okWide_slice ht hv
  obtain ⟨fuel, hf⟩ := h
  exact vec_of_trod ht he hc hf

theorem open_items {t e q : TypeId} {f0 f1 f2 : Field} {v : Value} {d : DataW H} {p : List MemPlace} (ht : P.underlying t = some (.slice e)) (hs : P.underlying e = some (.struct #[f0, f1, f2])) (hone : oneCellFields P #[f0, f1, f2] = true) (hC : P.cellsOf e = 3)
    (u0 : P.underlying f0.type = some (.int .u64)) (u1 : P.underlying f1.type = some (.slice q)) (u2 : P.underlying f2.type = some (.int .u64)) (hq : P.underlying q = some (.int .i32)) (hcq : P.cellsOf q = 1)
    (hv : Value.okWide P w .any base t v) (h : DataW.Trod enc P w 0 (fun _ => true) true t v d p) :
    ∃ (A : Option Addr) (its : List ItT) (c : Nat), v = .slice A its.length c ∧ ItemsAt w w.heap.size A its ∧ its.length ≤ c ∧ c ≤ 9223372036854775807 ∧ (A = none → c = 0) := by
  obtain ⟨A, n, c, rfl, hnc, hn, hA, hc, hel⟩ := open_elems ht hC (by omega) hv h
  have H1 : ∀ i, i < n → ∃ z : ItT, (∃ b off, A = some ⟨b, off, none⟩ ∧ b < w.heap.size ∧ w.cell? ⟨b, off + i * 3, none⟩ = some (.int .u64 z.id) ∧ w.cell? ⟨b, off + i * 3 + 1, none⟩ = some (.slice z.A z.vec.length z.cap) ∧ w.cell? ⟨b, off + i * 3 + 2, none⟩ = some (.int .u64 z.tags)) ∧ VecB w w.heap.size z.A z.vec := by
    intro i hi
    obtain ⟨b, off, cs, f, y, rfl, hb, hl, hcell, hd⟩ := hel i hi
    match cs, hl with
    | [c0, c1, c2], _ =>
      obtain ⟨xs, n', _, _, _, hlen, hg⟩ := DataW.trod_struct hs hd
      obtain ⟨o0, k0⟩ := hone_of hone 0 f0 rfl
      obtain ⟨o1, k1⟩ := hone_of hone 1 f1 rfl
      obtain ⟨o2, k2⟩ := hone_of hone 2 f2 rfl
      match xs, hlen with
      | [y0, y1, y2], _ =>
        have g0 : DataW.trod enc P w 0 (fun _ => true) true n' f0.type [c0] = some y0 := by simpa [o0, k0] using hg 0 f0 rfl
        have g1 : DataW.trod enc P w 0 (fun _ => true) true n' f1.type [c1] = some y1 := by simpa [o1, k1] using hg 1 f1 rfl
        have g2 : DataW.trod enc P w 0 (fun _ => true) true n' f2.type [c2] = some y2 := by simpa [o2, k2] using hg 2 f2 rfl
        obtain ⟨a, ha, _, _⟩ := DataW.trod_int u0 g0
        obtain ⟨tg, htg, _, _⟩ := DataW.trod_int u2 g2
        obtain ⟨ZA, zs, zc, hz, hV⟩ := vec_of_trod u1 hq hcq g1
        simp at ha htg
        subst ha htg hz
        exact ⟨⟨a, ZA, zs, zc, tg⟩, ⟨b, off, rfl, hb, hcell 0 (by omega), hcell 1 (by omega), hcell 2 (by omega)⟩, hV⟩
  obtain ⟨its, hlen, hits⟩ := list_of n H1
  subst hlen
  exact ⟨A, its, c, rfl, hits, hnc, hc, hA⟩

/-- A spot, told by its three cells. -/
theorem spot_of_trod {t : TypeId} {f0 f1 g0 g1 : Field} {f : Nat} {c0 c1 c2 : Value} {y : DataW H × List MemPlace} (hs : P.underlying t = some (.struct #[f0, f1]))
    (o0 : f0.offset = 0) (k0 : P.cellsOf f0.type = 2) (o1 : f1.offset = 2) (k1 : P.cellsOf f1.type = 1) (hh : P.underlying f0.type = some (.struct #[g0, g1])) (q0 : g0.offset = 0) (m0 : P.cellsOf g0.type = 1) (q1 : g1.offset = 1) (m1 : P.cellsOf g1.type = 1)
    (u0 : P.underlying g0.type = some (.int .u64)) (u1 : P.underlying g1.type = some (.int .u64)) (u2 : P.underlying f1.type = some (.int .i64))
    (hf : DataW.trod enc P w 0 (fun _ => true) true f t [c0, c1, c2] = some y) : ∃ s : SpotT, c0 = .int .u64 s.1.1 ∧ c1 = .int .u64 s.1.2 ∧ c2 = .int .i64 s.2 := by
  obtain ⟨y0, y1, n, _, _, h0, h1⟩ := trod_struct2 hs hf
  have h0' : DataW.trod enc P w 0 (fun _ => true) true n f0.type [c0, c1] = some y0 := by simpa [o0, k0] using h0
  have h1' : DataW.trod enc P w 0 (fun _ => true) true n f1.type [c2] = some y1 := by simpa [o1, k1] using h1
  obtain ⟨z0, z1, n', _, _, e0, e1⟩ := trod_struct2 hh h0'
  have e0' : DataW.trod enc P w 0 (fun _ => true) true n' g0.type [c0] = some z0 := by simpa [q0, m0] using e0
  have e1' : DataW.trod enc P w 0 (fun _ => true) true n' g1.type [c1] = some z1 := by simpa [q1, m1] using e1
  obtain ⟨a, ha, _, _⟩ := DataW.trod_int u0 e0'
  obtain ⟨b, hb, _, _⟩ := DataW.trod_int u1 e1'
  obtain ⟨c, hc, _, _⟩ := DataW.trod_int u2 h1'
  simp at ha hb hc
  exact ⟨((a, b), c), ha, hb, hc⟩
theorem open_spots {t e : TypeId} {f0 f1 g0 g1 : Field} {v : Value} {d : DataW H} {p : List MemPlace} (ht : P.underlying t = some (.slice e)) (hs : P.underlying e = some (.struct #[f0, f1])) (hC : P.cellsOf e = 3)
    (o0 : f0.offset = 0) (k0 : P.cellsOf f0.type = 2) (o1 : f1.offset = 2) (k1 : P.cellsOf f1.type = 1) (hh : P.underlying f0.type = some (.struct #[g0, g1])) (q0 : g0.offset = 0) (m0 : P.cellsOf g0.type = 1) (q1 : g1.offset = 1) (m1 : P.cellsOf g1.type = 1)
    (u0 : P.underlying g0.type = some (.int .u64)) (u1 : P.underlying g1.type = some (.int .u64)) (u2 : P.underlying f1.type = some (.int .i64))
    (hv : Value.okWide P w .any base t v) (h : DataW.Trod enc P w 0 (fun _ => true) true t v d p) :
    ∃ (A : Option Addr) (zs : List SpotT) (c : Nat), v = .slice A zs.length c ∧ RdS w w.heap.size A zs ∧ zs.length ≤ c ∧ c ≤ 9223372036854775807 ∧ (A = none → c = 0) := by
  obtain ⟨A, n, c, rfl, hnc, hn, hA, hc, hel⟩ := open_elems ht hC (by omega) hv h
  have H1 : ∀ i, i < n → ∃ z : SpotT, ∃ b off, A = some ⟨b, off, none⟩ ∧ b < w.heap.size ∧ w.cell? ⟨b, off + i * 3, none⟩ = some (.int .u64 z.1.1) ∧ w.cell? ⟨b, off + i * 3 + 1, none⟩ = some (.int .u64 z.1.2) ∧ w.cell? ⟨b, off + i * 3 + 2, none⟩ = some (.int .i64 z.2) := by
    intro i hi
    obtain ⟨b, off, cs, f, y, rfl, hb, hl, hcell, hd⟩ := hel i hi
    match cs, hl with
    | [c0, c1, c2], _ =>
      obtain ⟨s, rfl, rfl, rfl⟩ := spot_of_trod hs o0 k0 o1 k1 hh q0 m0 q1 m1 u0 u1 u2 hd
      exact ⟨s, b, off, rfl, hb, hcell 0 (by omega), hcell 1 (by omega), hcell 2 (by omega)⟩
  obtain ⟨zs, hlen, hzs⟩ := list_of n H1
  subst hlen
  exact ⟨A, zs, c, rfl, hzs, hnc, hc, hA⟩
end

end Go.Proofs.Ytajmnhnepoomjaa
