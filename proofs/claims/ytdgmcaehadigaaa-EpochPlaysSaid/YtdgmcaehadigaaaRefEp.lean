/- The document's epoch clock (ganglionref20), by contract. -/
import Derived.Test.YtdgmcaehadigaaaEpJ
import Derived.Test.YtdgmcaehadigaaaLits
import Derived.Test.YtdgmcaehadigaaaClkNew
import Derived.Laws.OwnMore
namespace Go.Proofs.Ytdgmcaehadigaaa
open Go.RowKit

/-- A clock of the document's, as a value. -/
def cV (e : Int) (A1 : Option Addr) (l1 c1 : Nat) (A2 : Option Addr) (l2 c2 : Nat) (A3 : Option Addr) (l3 c3 : Nat) (lk : Int) : Value :=
  .agg #[.int .i64 e, .slice A1 l1 c1, .slice A2 l2 c2, .slice A3 l3 c3, .int .i64 lk]
set_option maxRecDepth 100000 in
theorem RHas_any (e : Int) (A1 : Option Addr) (l1 c1 : Nat) (A2 : Option Addr) (l2 c2 : Nat) (A3 : Option Addr) (l3 c3 : Nat) (lk v : Int) (w : World) :
    Calls Try.prog 51 #[cV e A1 l1 c1 A2 l2 c2 A3 l3 c3 lk, .int .i64 v] w fun r w' => r = .returned (.bool (decide (0 ≤ v ∧ v < (l2 : Int)))) ∧ Below w.heap.size w w' := by
  have hb := below_new w (.cells #[.int .i64 e, .slice A1 l1 c1, .slice A2 l2 c2, .slice A3 l3 c3, .int .i64 lk] 69)
  have HB := Lib.hid hb
  clear hb
  unfold cV
  by_cases h1 : 0 ≤ v
  · by_cases h2 : v < (l2 : Int)
    · rw [decide_eq_true ⟨h1, h2⟩]
      go_enter Try.func51, Try.ntmps51
      go_wp2
      go_ret
      exact ⟨rfl, HB.out⟩
    · rw [decide_eq_false (fun h => h2 h.2)]
      go_enter Try.func51, Try.ntmps51
      go_wp2
      go_ret
      exact ⟨rfl, HB.out⟩
  · rw [decide_eq_false (fun h => h1 h.1)]
    go_enter Try.func51, Try.ntmps51
    go_wp2
    go_ret
    exact ⟨rfl, HB.out⟩

/-- A box of five cells. -/
structure Five (W : World) (b : Nat) (v0 v1 v2 v3 v4 : Value) : Prop where
  lt : b < W.heap.size
  c0 : W.cell? ⟨b, 0, none⟩ = some v0
  c1 : W.cell? ⟨b, 1, none⟩ = some v1
  c2 : W.cell? ⟨b, 2, none⟩ = some v2
  c3 : W.cell? ⟨b, 3, none⟩ = some v3
  c4 : W.cell? ⟨b, 4, none⟩ = some v4
  f0 : W.frozen? ⟨b, 0, none⟩ = false
  f1 : W.frozen? ⟨b, 1, none⟩ = false
  f2 : W.frozen? ⟨b, 2, none⟩ = false
  f3 : W.frozen? ⟨b, 3, none⟩ = false
  f4 : W.frozen? ⟨b, 4, none⟩ = false
theorem Five.new (W : World) (v0 v1 v2 v3 v4 : Value) (t : TypeId) : Five (W.alloc (.cells #[v0, v1, v2, v3, v4] t)) W.heap.size v0 v1 v2 v3 v4 := by
  have hh := heap_alloc_last W (.cells #[v0, v1, v2, v3, v4] t)
  have f : ∀ j, (W.alloc (.cells #[v0, v1, v2, v3, v4] t)).frozen? ⟨W.heap.size, j, none⟩ = false := fun j => by simp only [World.frozen?]; rw [hh]; simp
  exact ⟨by simp, cell_of_row _ _ 0 _ t (0, 0) hh, cell_of_row _ _ 1 _ t (0, 0) hh, cell_of_row _ _ 2 _ t (0, 0) hh, cell_of_row _ _ 3 _ t (0, 0) hh, cell_of_row _ _ 4 _ t (0, 0) hh, f 0, f 1, f 2, f 3, f 4⟩
theorem Five.below {W W' : World} {b : Nat} {v0 v1 v2 v3 v4 : Value} (h : Five W b v0 v1 v2 v3 v4) (hb : Below W.heap.size W W') : Five W' b v0 v1 v2 v3 v4 :=
  have k := fun j => hb.cell (p := ⟨b, j, none⟩) h.lt
  have f := fun j => hb.frozen (p := ⟨b, j, none⟩) h.lt
  ⟨Nat.lt_of_lt_of_le h.lt hb.size, (k 0).trans h.c0, (k 1).trans h.c1, (k 2).trans h.c2, (k 3).trans h.c3, (k 4).trans h.c4, (f 0).trans h.f0, (f 1).trans h.f1, (f 2).trans h.f2, (f 3).trans h.f3, (f 4).trans h.f4⟩
set_option maxRecDepth 100000 in
set_option maxHeartbeats 2000000 in
theorem RSet_any (A : Option Addr) (zs : List Int) (c : Nat) (w : World) (hA : Rd (Value.int .i64) w w.heap.size A zs) (hl : zs.length ≤ 1000) (k : Nat) (hk : k < zs.length) (v : Int) :
    Calls Try.prog 92 #[.slice A zs.length c, .int .i64 (k : Int), .int .i64 v] w (IntsNew (zs.set k v) w) := by
  obtain ⟨i0, hi0, hz0, hz1, hz2⟩ := info_parts info_int
  cases A with
  | none =>
    have hn := hA.none_nil
    rw [hn] at hk
    cases hk
  | some ad =>
    have hb0 : ∀ o, Below w.heap.size w (w.alloc o) := fun o => (Below.refl _ w).alloc (Nat.le_refl _) o
    have hk0 : (0 : Int) ≤ (k : Int) := by omega
    have hk1 : (k : Int) < (zs.length : Int) := by omega
    go_enter Try.func92, Try.ntmps92
    go_upto_region 2 with (at_builtin; refine wpList_append_own _ rfl _ _ 38 rfl w.heap.size 3 i0 (.int .i64 0) 1 8 Try.underlying38 hi0 hz0 hz1 hz2 rfl (by decide) _ _ _ rfl (World.ownsRow_made w #[] 0 (Nat.le_refl _) (Nat.zero_le _) rfl) ad zs.length c (zs.map (Value.int .i64)) rfl ?c1 ?c2 ints_one ?c3 ?c4 ?c5 ?_)
    case c1 => simp
    case c2 => exact ((hA.below (hb0 _)).more (B' := w.heap.size) (Nat.le_refl _)).news
    case c3 => unfold maxLen; omega
    case c4 => omega
    case c5 => simp
    intro v' w1 hown hgrow _
    have hown2 : w1.ownsRow w.heap.size 3 1 v' zs.length (zs.map (Value.int .i64)) := by simpa using hown
    have hB : Below w.heap.size w w1 := (hb0 _).grown hgrow (by simp) (by intro k hk; simp [Value.ownBlock] at hk; omega)
    clear hown hgrow hb0
    obtain ⟨A1, c1, rfl, _, _⟩ := ownSlice hown2
    obtain ⟨g, rfl, hg1, hg2⟩ := ownPos hown2 (by omega)
    rcases hown2.2 with ⟨hv, _⟩ | ⟨g', cap, cur, hv, _, hh, hc1, hc2, hc3, hc4⟩
    · injection hv with hv; cases hv
    · injection hv with hv hv1 hv2
      injection hv with hv
      injection hv with hv
      subst hv hv2
      have hcell : w1.cell? ⟨g, k, none⟩ = cur[k]? := cell_of_row _ _ k _ _ (0, 0) hh
      have hlt : k < cur.size := by omega
      have hcell2 : w1.cell? ⟨g, k, none⟩ = some cur[k] := hcell.trans (Array.getElem?_eq_getElem hlt)
      have hfr : w1.frozen? ⟨g, k, none⟩ = false := by simp only [World.frozen?]; rw [hh]; simp
      have hres : Hid (IntsNew (zs.set k v) w (.returned (.slice (some ⟨g, 0, none⟩) zs.length c1)) (w1.setCell ⟨g, k, none⟩ (.int .i64 v))) := Lib.hid <| by
        refine ⟨some ⟨g, 0, none⟩, c1, by rw [List.length_set], fun j z hj => ⟨g, 0, rfl, hg1, by rw [World.size_setCell]; exact hg2, ?_⟩, hB.setCell (p := ⟨g, k, none⟩) hg1 _⟩
        rw [Nat.zero_add]
        by_cases e : k = j
        · subst e
          rw [List.getElem?_set_self (by omega)] at hj
          injection hj with hj
          rw [← hj]
          exact World.cell?_setCell_same _ _ _ hcell2
        · rw [List.getElem?_set_ne e] at hj
          rw [World.cell?_setCell_other _ _ _ _ (fun e2 => e (by injection e2))]
          obtain ⟨b, off, e1, e2, e3⟩ := Rd.of_own (f := Value.int .i64) hown2 j z hj
          injection e1 with e1
          injection e1 with e1 e4
          subst e1 e4
          rw [Nat.zero_add] at e3
          exact e3
      clear hA hown2 hh hc4 hB hcell hc3
      go_wp2
      go_ret
      exact hres.out

theorem Five.put {W : World} {b : Nat} {u0 u1 u2 u3 u4 : Value} (h : Five W b u0 u1 u2 u3 u4) (v0 v1 v2 v3 v4 : Value) :
    Five (((((W.setCell ⟨b, 0, none⟩ v0).setCell ⟨b, 1, none⟩ v1).setCell ⟨b, 2, none⟩ v2).setCell ⟨b, 3, none⟩ v3).setCell ⟨b, 4, none⟩ v4) b v0 v1 v2 v3 v4 := by
  have o : ∀ (X : World) (i j : Nat) (v : Value), i ≠ j → (X.setCell ⟨b, i, none⟩ v).cell? ⟨b, j, none⟩ = X.cell? ⟨b, j, none⟩ := fun X i j v hij => World.cell?_setCell_other _ _ _ _ (fun e => hij (by injection e))
  have t : ∀ (X : World) (i : Nat) (v u : Value), X.cell? ⟨b, i, none⟩ = some u → (X.setCell ⟨b, i, none⟩ v).cell? ⟨b, i, none⟩ = some v := fun X i v u hu => World.cell?_setCell_same _ _ _ hu
  refine ⟨by simp only [World.size_setCell]; exact h.lt, ?_, ?_, ?_, ?_, ?_, ?_, ?_, ?_, ?_, ?_⟩
  · rw [o _ 4 0 _ (by decide), o _ 3 0 _ (by decide), o _ 2 0 _ (by decide), o _ 1 0 _ (by decide)]
    exact t _ _ _ _ h.c0
  · rw [o _ 4 1 _ (by decide), o _ 3 1 _ (by decide), o _ 2 1 _ (by decide)]
    exact t _ _ _ _ ((o _ 0 1 _ (by decide)).trans h.c1)
  · rw [o _ 4 2 _ (by decide), o _ 3 2 _ (by decide)]
    exact t _ _ _ _ ((o _ 1 2 _ (by decide)).trans ((o _ 0 2 _ (by decide)).trans h.c2))
  · rw [o _ 4 3 _ (by decide)]
    exact t _ _ _ _ ((o _ 2 3 _ (by decide)).trans ((o _ 1 3 _ (by decide)).trans ((o _ 0 3 _ (by decide)).trans h.c3)))
  · exact t _ _ _ _ ((o _ 3 4 _ (by decide)).trans ((o _ 2 4 _ (by decide)).trans ((o _ 1 4 _ (by decide)).trans ((o _ 0 4 _ (by decide)).trans h.c4))))
  · simp only [World.frozen?_setCell]; exact h.f0
  · simp only [World.frozen?_setCell]; exact h.f1
  · simp only [World.frozen?_setCell]; exact h.f2
  · simp only [World.frozen?_setCell]; exact h.f3
  · simp only [World.frozen?_setCell]; exact h.f4
theorem below_put {w W : World} {b : Nat} (h : Below w.heap.size w W) (hb : w.heap.size ≤ b) (v0 v1 v2 v3 v4 : Value) :
    Below w.heap.size w (((((W.setCell ⟨b, 0, none⟩ v0).setCell ⟨b, 1, none⟩ v1).setCell ⟨b, 2, none⟩ v2).setCell ⟨b, 3, none⟩ v3).setCell ⟨b, 4, none⟩ v4) :=
  ((((h.setCell (p := ⟨b, 0, none⟩) hb _).setCell (p := ⟨b, 1, none⟩) hb _).setCell (p := ⟨b, 2, none⟩) hb _).setCell (p := ⟨b, 3, none⟩) hb _).setCell (p := ⟨b, 4, none⟩) hb _
theorem Five.one {W : World} {b : Nat} {u0 u1 u2 u3 u4 : Value} (h : Five W b u0 u1 u2 u3 u4) (v : Value) : Five (W.setCell ⟨b, 1, none⟩ v) b u0 v u2 u3 u4 ∧ Five (W.setCell ⟨b, 2, none⟩ v) b u0 u1 v u3 u4 ∧ Five (W.setCell ⟨b, 3, none⟩ v) b u0 u1 u2 v u4 := by
  have o : ∀ (i j : Nat), i ≠ j → (W.setCell ⟨b, i, none⟩ v).cell? ⟨b, j, none⟩ = W.cell? ⟨b, j, none⟩ := fun i j hij => World.cell?_setCell_other _ _ _ _ (fun e => hij (by injection e))
  have l : ∀ i, b < (W.setCell ⟨b, i, none⟩ v).heap.size := fun i => by rw [World.size_setCell]; exact h.lt
  have f : ∀ i j, (W.setCell ⟨b, i, none⟩ v).frozen? ⟨b, j, none⟩ = W.frozen? ⟨b, j, none⟩ := fun i j => World.frozen?_setCell _ _ _ _
  exact ⟨⟨l 1, (o 1 0 (by decide)).trans h.c0, World.cell?_setCell_same _ _ _ h.c1, (o 1 2 (by decide)).trans h.c2, (o 1 3 (by decide)).trans h.c3, (o 1 4 (by decide)).trans h.c4, (f 1 0).trans h.f0, (f 1 1).trans h.f1, (f 1 2).trans h.f2, (f 1 3).trans h.f3, (f 1 4).trans h.f4⟩,
    ⟨l 2, (o 2 0 (by decide)).trans h.c0, (o 2 1 (by decide)).trans h.c1, World.cell?_setCell_same _ _ _ h.c2, (o 2 3 (by decide)).trans h.c3, (o 2 4 (by decide)).trans h.c4, (f 2 0).trans h.f0, (f 2 1).trans h.f1, (f 2 2).trans h.f2, (f 2 3).trans h.f3, (f 2 4).trans h.f4⟩,
    ⟨l 3, (o 3 0 (by decide)).trans h.c0, (o 3 1 (by decide)).trans h.c1, (o 3 2 (by decide)).trans h.c2, World.cell?_setCell_same _ _ _ h.c3, (o 3 4 (by decide)).trans h.c4, (f 3 0).trans h.f0, (f 3 1).trans h.f1, (f 3 2).trans h.f2, (f 3 3).trans h.f3, (f 3 4).trans h.f4⟩⟩
theorem Five.other {W : World} {b : Nat} {u0 u1 u2 u3 u4 : Value} (h : Five W b u0 u1 u2 u3 u4) {a : Addr} (ha : a.block ≠ b) (v : Value) : Five (W.setCell a v) b u0 u1 u2 u3 u4 :=
  have o := fun (j : Nat) => (World.cell?_setCell_other _ _ _ _ (fun e => ha (by rw [e])) : (W.setCell a v).cell? ⟨b, j, none⟩ = W.cell? ⟨b, j, none⟩)
  have f := fun (j : Nat) => (World.frozen?_setCell _ _ _ _ : (W.setCell a v).frozen? ⟨b, j, none⟩ = W.frozen? ⟨b, j, none⟩)
  ⟨by rw [World.size_setCell]; exact h.lt, (o 0).trans h.c0, (o 1).trans h.c1, (o 2).trans h.c2, (o 3).trans h.c3, (o 4).trans h.c4, (f 0).trans h.f0, (f 1).trans h.f1, (f 2).trans h.f2, (f 3).trans h.f3, (f 4).trans h.f4⟩
theorem Five.drew {W : World} {b : Nat} {u0 u1 u2 u3 u4 : Value} (h : Five W b u0 u1 u2 u3 u4) : Five W.drew b u0 u1 u2 u3 u4 := ⟨h.lt, h.c0, h.c1, h.c2, h.c3, h.c4, h.f0, h.f1, h.f2, h.f3, h.f4⟩
/-- The box of an argument, and that of a result. -/
theorem Five.two (W : World) (v0 v1 v2 v3 v4 u0 u1 u2 u3 u4 : Value) (t : TypeId) :
    Five ((W.alloc (.cells #[v0, v1, v2, v3, v4] t)).alloc (.cells #[u0, u1, u2, u3, u4] t)) W.heap.size v0 v1 v2 v3 v4 ∧ Five ((W.alloc (.cells #[v0, v1, v2, v3, v4] t)).alloc (.cells #[u0, u1, u2, u3, u4] t)) (W.heap.size + 1) u0 u1 u2 u3 u4 ∧
      Below W.heap.size W ((W.alloc (.cells #[v0, v1, v2, v3, v4] t)).alloc (.cells #[u0, u1, u2, u3, u4] t)) := by
  have h2 := Five.new (W.alloc (.cells #[v0, v1, v2, v3, v4] t)) u0 u1 u2 u3 u4 t
  rw [World.size_alloc] at h2
  exact ⟨(Five.new W v0 v1 v2 v3 v4 t).below (below_new _ _), h2, Below.next (below_new _ _) (below_new _ _)⟩
def natI (L : List Nat) : List Int := L.map Int.ofNat
/-- The memory of a list that is not empty lies within Z. -/
def OutZ (Z : Nat → Prop) (A : Option Addr) (n : Nat) : Prop := n ≠ 0 → ∀ g o, A = some ⟨g, o, none⟩ → Z g
/-- Z, and what is new. -/
def ZZ (Z : Nat → Prop) (w : World) (b : Nat) : Prop := Z b ∨ w.heap.size ≤ b
theorem OutZ.old {Z : Nat → Prop} {A : Option Addr} {n : Nat} {w : World} (h : OutZ Z A n) : OutZ (ZZ Z w) A n := fun h0 g o e => .inl (h h0 g o e)
theorem OutZ.new {Z : Nat → Prop} {A : Option Addr} {n : Nat} {w : World} (h : ∀ g o, A = some ⟨g, o, none⟩ → w.heap.size ≤ g) : OutZ (ZZ Z w) A n := fun _ g o e => .inr (h g o e)
/-- A clock of the document's in memory, its lists within Z. -/
def RC (w : World) (Z : Nat → Prop) (V : Value) (x : EX) : Prop := ∃ A1 c1 A2 c2 A3 c3, V = cV x.e A1 x.ld.length c1 A2 x.rc.length c2 A3 x.lb.length c3 x.lk ∧
  Rd (Value.int .i64) w w.heap.size A1 (natI x.ld) ∧ Rd (Value.int .i64) w w.heap.size A2 (natI x.rc) ∧ RdR w w.heap.size A3 x.lb ∧ OutZ Z A1 x.ld.length ∧ OutZ Z A2 x.rc.length ∧ OutZ Z A3 x.lb.length
theorem RLoad_not {w : World} {Z : Nat → Prop} {V : Value} {x : EX} (h : RC w Z V x) (v : Int) (hv : hasE x v = false) :
    Calls Try.prog 39 #[V, .int .i64 v] w fun r w' => r = .returned (.tuple #[V, .int .i64 0]) ∧ Below w.heap.size w w' := by
  obtain ⟨A1, c1, A2, c2, A3, c3, rfl, _, _, _⟩ := h
  have HH := Lib.hid (fun W => RHas_any (x.e : Int) A1 x.ld.length c1 A2 x.rc.length c2 A3 x.lb.length c3 (x.lk : Int) v W)
  have hd : decide (0 ≤ v ∧ v < (x.rc.length : Int)) = false := hv
  rw [hd] at HH
  clear hv hd
  unfold cV at *
  generalize (x.e : Int) = e at *
  generalize (x.lk : Int) = lk at *
  generalize x.ld.length = l1 at *
  generalize x.rc.length = l2 at *
  generalize x.lb.length = l3 at *
  obtain ⟨b1, b2, b3⟩ := Five.two w (.int .i64 e) (.slice A1 l1 c1) (.slice A2 l2 c2) (.slice A3 l3 c3) (.int .i64 lk) (.int .i64 0) (.slice none 0 0) (.slice none 0 0) (.slice none 0 0) (.int .i64 0) 69
  have HB1 := Lib.hid b1
  have HB2 := Lib.hid b2
  have HB3 := Lib.hid b3
  clear b1 b2 b3
  go_enter Try.func39, Try.ntmps39
  go_wp2_with fail
  refine (HH.out _).mono ?_
  rintro r w2 ⟨rfl, hb2⟩
  obtain ⟨_, x0, x1, x2, x3, x4, y0, y1, y2, y3, y4⟩ := HB1.out.below hb2
  obtain ⟨hlt, u0, u1, u2, u3, u4, z0, z1, z2, z3, z4⟩ := HB2.out.below hb2
  have HBB := Lib.hid (Below.next HB3.out hb2)
  have HP := Lib.hid ((HB2.out.below hb2).put (.int .i64 e) (.slice A1 l1 c1) (.slice A2 l2 c2) (.slice A3 l3 c3) (.int .i64 lk))
  clear hb2 HB1 HB2 HB3 HH
  go_wp2
  obtain ⟨_, q0, q1, q2, q3, q4, _, _, _, _, _⟩ := HP.out
  exact bodyPost_ret (v := .tuple #[.agg #[.int .i64 e, .slice A1 l1 c1, .slice A2 l2 c2, .slice A3 l3 c3, .int .i64 lk], .int .i64 0]) (by simp [results, Try.results39, go_sem, q0, q1, q2, q3, q4]) rfl ⟨rfl, below_put HBB.out (Nat.le_succ _) _ _ _ _ _⟩

theorem natI_len (L : List Nat) : (natI L).length = L.length := List.length_map _
theorem natI_set (L : List Nat) (k v : Nat) : natI (L.set k v) = (natI L).set k (v : Int) := List.map_set
theorem RSet_n {w : World} {A : Option Addr} {L : List Nat} {c k : Nat} (hA : Rd (Value.int .i64) w w.heap.size A (natI L)) (hl : L.length ≤ 64) (hk : k < L.length) (v : Nat) {l : Nat} (hll : L.length = l) :
    Calls Try.prog 92 #[.slice A l c, .int .i64 (k : Int), .int .i64 (v : Int)] w fun r w' => ∃ A' c', r = .returned (.slice A' l c') ∧ Rd (Value.int .i64) w' w'.heap.size A' (natI (L.set k v)) ∧ Below w.heap.size w w' ∧ ∀ g o, A' = some ⟨g, o, none⟩ → w.heap.size ≤ g := by
  subst hll
  have := RSet_any A (natI L) c w hA (by rw [natI_len]; omega) k (by rw [natI_len]; exact hk) (v : Int)
  rw [natI_len] at this
  refine this.mono fun r w' ⟨A', c', hr, h1, hb⟩ => ⟨A', c', ?_, ?_, hb, fun g o hA' => ?_⟩
  · rw [List.length_set, natI_len] at hr
    exact hr
  · rw [natI_set]
    exact fun j z hj => let ⟨b, off, e1, _, e3, e4⟩ := h1 j z hj; ⟨b, off, e1, e3, e4⟩
  · obtain ⟨b, off, e1, e2, _⟩ := h1 k (v : Int) (List.getElem?_set_self (by rw [natI_len]; exact hk))
    rw [hA'] at e1
    injection e1 with e1
    injection e1 with e1
    omega
theorem rd_set {W : World} {A : Option Addr} {L : List Int} (h : Rd (Value.int .i64) W W.heap.size A L) {a : Addr} {v : Value} (ha : ∀ g o, A = some ⟨g, o, none⟩ → a.block ≠ g) : Rd (Value.int .i64) (W.setCell a v) (W.setCell a v).heap.size A L := fun k z hk => by
  obtain ⟨b, off, e1, e2, e3⟩ := h k z hk
  exact ⟨b, off, e1, by rw [World.size_setCell]; exact e2, (World.cell?_setCell_other _ _ _ _ (fun e => ha b off e1 (by rw [e]))).trans e3⟩
theorem rd_put {W : World} {A : Option Addr} {L : List Int} (h : Rd (Value.int .i64) W W.heap.size A L) {b : Nat} (ha : ∀ g o, A = some ⟨g, o, none⟩ → b ≠ g) (v0 v1 v2 v3 v4 : Value) :
    Rd (Value.int .i64) (((((W.setCell ⟨b, 0, none⟩ v0).setCell ⟨b, 1, none⟩ v1).setCell ⟨b, 2, none⟩ v2).setCell ⟨b, 3, none⟩ v3).setCell ⟨b, 4, none⟩ v4).drew (((((W.setCell ⟨b, 0, none⟩ v0).setCell ⟨b, 1, none⟩ v1).setCell ⟨b, 2, none⟩ v2).setCell ⟨b, 3, none⟩ v3).setCell ⟨b, 4, none⟩ v4).drew.heap.size A L :=
  rd_later (rd_set (rd_set (rd_set (rd_set (rd_set h (a := ⟨b, 0, none⟩) ha (v := v0)) (a := ⟨b, 1, none⟩) ha (v := v1)) (a := ⟨b, 2, none⟩) ha (v := v2)) (a := ⟨b, 3, none⟩) ha (v := v3)) (a := ⟨b, 4, none⟩) ha (v := v4)) (Below.refl _ _).drew
set_option maxHeartbeats 2000000 in
theorem RLoad_yes {w : World} {Z : Nat → Prop} {V : Value} {x : EX} {n : Nat} (h : RC w Z V x) (hf : EFit n x) (k : Nat) (hk : k < x.rc.length) :
    Calls Try.prog 39 #[V, .int .i64 (k : Int)] w fun r w' => ∃ V', r = .returned (.tuple #[V', .int .i64 (x.e : Int)]) ∧ RC w' (ZZ Z w) V' (loadE x k) ∧ Below w.heap.size w w' := by
  obtain ⟨A1, c1, A2, c2, A3, c3, rfl, r1, r2, r3, t1, t2, t3⟩ := h
  have HH := Lib.hid (fun W => RHas_any (x.e : Int) A1 x.ld.length c1 A2 x.rc.length c2 A3 x.lb.length c3 (x.lk : Int) (k : Int) W)
  have hd : decide (0 ≤ (k : Int) ∧ (k : Int) < (x.rc.length : Int)) = true := decide_eq_true ⟨by omega, by omega⟩
  rw [hd] at HH
  have HS := Lib.hid (fun W (hb : Below w.heap.size w W) => RSet_n (c := c1) (rd_later r1 hb) (by rw [hf.len]; exact hf.few) (by rw [hf.len]; exact hk) x.e rfl)
  have HO : Hid (∀ W A c, Below w.heap.size w W → Rd (Value.int .i64) W W.heap.size A (natI (x.ld.set k x.e)) → (∀ g o, A = some ⟨g, o, none⟩ → w.heap.size ≤ g) → RC W (ZZ Z w) (cV x.e A x.ld.length c A2 x.rc.length c2 A3 x.lb.length c3 x.lk) (loadE x k)) := Lib.hid fun W A c hb hr hz =>
    ⟨A, c, A2, c2, A3, c3, by show _ = cV _ _ (x.ld.set k x.e).length _ _ _ _ _ _ _ _; rw [List.length_set]; rfl, hr, rd_later r2 hb, (r3.below hb).more hb.size, .new hz, t2.old, t3.old⟩
  clear hd r1 r2 r3 t1 t2 t3 hf hk
  unfold cV at *
  generalize (x.e : Int) = e at *
  generalize (x.lk : Int) = lk at *
  generalize x.ld.length = l1 at *
  generalize x.rc.length = l2 at *
  generalize x.lb.length = l3 at *
  obtain ⟨b1, b2, b3⟩ := Five.two w (.int .i64 e) (.slice A1 l1 c1) (.slice A2 l2 c2) (.slice A3 l3 c3) (.int .i64 lk) (.int .i64 0) (.slice none 0 0) (.slice none 0 0) (.slice none 0 0) (.int .i64 0) 69
  have HB1 := Lib.hid b1
  have HB2 := Lib.hid b2
  have HB3 := Lib.hid b3
  clear b1 b2 b3
  go_enter Try.func39, Try.ntmps39
  go_wp2_with fail
  refine (HH.out _).mono ?_
  rintro r w2 ⟨rfl, hb2⟩
  have H1 := Lib.hid (HB1.out.below hb2)
  have H2 := Lib.hid (HB2.out.below hb2)
  have HBB := Lib.hid (Below.next HB3.out hb2)
  have x0 := H1.out.c0
  have x1 := H1.out.c1
  clear hb2 HB1 HB2 HB3 HH
  go_wp2_with fail
  refine (HS.out _ HBB.out).mono ?_
  rintro r w3 ⟨A5, c5, rfl, hr5, hb3, hg5⟩
  have HZ5 : Hid (∀ g o, A5 = some ⟨g, o, none⟩ → w.heap.size ≤ g) := Lib.hid fun g o e => Nat.le_trans (HBB.out).size (hg5 g o e)
  clear x0 x1
  obtain ⟨_, x0, x1, x2, x3, x4, y0, y1, y2, y3, y4⟩ := H1.out.below hb3
  have H5 := Lib.hid hr5
  have H3 := Lib.hid (H2.out.below hb3)
  have HB5 := Lib.hid (Below.next HBB.out hb3)
  have HW1 := Lib.hid ((H1.out.below hb3).one (.slice A5 l1 c5)).1
  have HW2 := Lib.hid (H3.out.other (a := ⟨w.heap.size, 1, none⟩) (by show w.heap.size ≠ w.heap.size + 1; omega) (.slice A5 l1 c5))
  have HW3 := Lib.hid (HB5.out.setCell (p := ⟨w.heap.size, 1, none⟩) (Nat.le_refl _) (.slice A5 l1 c5))
  have HWR := Lib.hid (rd_set (v := .slice A5 l1 c5) H5.out (a := ⟨w.heap.size, 1, none⟩) (fun g o e => by have := hg5 g o e; have := H1.out.lt; show w.heap.size ≠ g; omega))
  have HG5 : Hid (∀ g o, A5 = some ⟨g, o, none⟩ → w.heap.size + 1 ≠ g) := Lib.hid fun g o e => by
    have := hg5 g o e
    have := H2.out.lt
    omega
  clear hb3 hr5 HBB H1 H2 H3 HB5 H5 hg5 HS
  go_upto_region 4 with (fail)
  generalize w3.setCell ⟨w.heap.size, 1, none⟩ (.slice A5 l1 c5) = W4 at *
  clear x0 x1 x2 x3 x4 y0 y1 y2 y3 y4
  obtain ⟨_, x0, x1, x2, x3, x4, y0, y1, y2, y3, y4⟩ := HW1.out
  obtain ⟨_, u0, u1, u2, u3, u4, z0, z1, z2, z3, z4⟩ := HW2.out
  have HP := Lib.hid (HW2.out.put (.int .i64 e) (.slice A5 l1 c5) (.slice A2 l2 c2) (.slice A3 l3 c3) (.int .i64 lk)).drew
  have HBF := Lib.hid (below_put HW3.out (Nat.le_succ w.heap.size) (.int .i64 e) (.slice A5 l1 c5) (.slice A2 l2 c2) (.slice A3 l3 c3) (.int .i64 lk)).drew
  have HRF := Lib.hid (HO.out _ A5 c5 HBF.out (rd_put HWR.out HG5.out (.int .i64 e) (.slice A5 l1 c5) (.slice A2 l2 c2) (.slice A3 l3 c3) (.int .i64 lk)) HZ5.out)
  go_region
  go_wp2
  obtain ⟨_, q0, q1, q2, q3, q4, _, _, _, _, _⟩ := HP.out
  exact bodyPost_ret (v := .tuple #[.agg #[.int .i64 e, .slice A5 l1 c5, .slice A2 l2 c2, .slice A3 l3 c3, .int .i64 lk], .int .i64 e]) (by simp [results, Try.results39, go_sem, q0, q1, q2, q3, q4]) rfl ⟨_, rfl, HRF.out, HBF.out⟩

end Go.Proofs.Ytdgmcaehadigaaa
