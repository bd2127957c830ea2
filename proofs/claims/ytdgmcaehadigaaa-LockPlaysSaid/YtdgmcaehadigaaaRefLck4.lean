/- The document's table of mutexes (ganglionref19), by contract: Take. -/
import Derived.Test.YtdgmcaehadigaaaRefLck3
import Derived.Deep.CutBlock
namespace Go.Proofs.Ytdgmcaehadigaaa
open Go.RowKit

theorem cellsQ_len (l : List PrT) : (cellsQ l).length = l.length * 2 := by
  induction l with
  | nil => rfl
  | cons a r ih =>
    show (_ :: _ :: cellsQ r).length = _
    simp only [List.length_cons, ih]
    omega
theorem cellsQ_one (l : List PrT) : ∀ u ∈ cellsQ l, u.oneCell' = true := by
  intro u hu
  obtain ⟨p, _, hp⟩ := List.mem_flatMap.1 hu
  simp only [List.mem_cons, List.not_mem_nil, or_false] at hp
  rcases hp with rfl | rfl <;> rfl
set_option maxRecDepth 100000 in
/-- A list of pairs is copied behind an empty one of the call's own. -/
theorem appQ1 {X : World} {b N l c3 : Nat} {A3 : Option Addr} {lb : List PrT} (hb : X.heap[b]? = some (.cells #[] 143 (0, 0))) (hA : RdP2 X N A3 lb) (hl : lb.length = l) (hf : l ≤ 100000) :
    ∃ g c X', (∀ ty, (Builtin.append_ #[47, 47] ty #[.slice (some ⟨b, 0, none⟩) 0 0, .slice A3 l c3]).run Try.prog X = .ok (.slice (some ⟨g, 0, none⟩) l c) X') ∧ X'.ownsRow b 143 2 (.slice (some ⟨g, 0, none⟩) l c) l (cellsQ lb) ∧ X.grownBy X' (some b) := by
  obtain ⟨i0, hi0, hz0, hz1, hz2⟩ := info_parts info_pair
  have hblt : b < X.heap.size := (Array.getElem?_eq_some_iff.1 hb).1
  have hown : X.ownsRow b 143 2 (.slice (some ⟨b, 0, none⟩) 0 0) 0 [] := ⟨by simp, .inr ⟨b, 0, #[], rfl, Nat.le_refl _, hb, Nat.le_refl _, by unfold maxLen; omega, by simp, by simp⟩⟩
  cases A3 with
  | none =>
    have hn : lb = [] := by
      cases lb with
      | nil => rfl
      | cons p r => obtain ⟨_, _, he, _⟩ := hA 0 p rfl; cases he
    subst hn
    have hl0 : l = 0 := by simpa using hl.symm
    subst hl0
    refine ⟨b, 0, X, fun ty => ?_, hown, ⟨rfl, rfl, rfl, Nat.le_refl _, fun _ _ _ => rfl⟩⟩
    simp [Builtin.append_, run_underlying Try.underlying47, sizeOf, typeInfo, hi0, Builtin.lenOf, Builtin.firstCells, storeCells]
  | some ad =>
    have hnews : ∀ j u, (cellsQ lb)[j]? = some u → X.cell? (ad.add j) = some u := fun j u hj => by
      have hj2 := (List.getElem?_eq_some_iff.1 hj).1
      rw [cellsQ_len] at hj2
      have hk : j / 2 < lb.length := by omega
      obtain ⟨g, o, e, _, q1, q2⟩ := hA (j / 2) _ (List.getElem?_eq_getElem hk)
      obtain ⟨p1, p2⟩ := cellsQ_at lb (j / 2) _ (List.getElem?_eq_getElem hk)
      injection e with e
      subst e
      rw [show Addr.add ⟨g, o, none⟩ j = ⟨g, o + j, none⟩ from by simp [Addr.add]]
      rcases (show j = j / 2 * 2 ∨ j = j / 2 * 2 + 1 by omega) with e | e
      · rw [e] at hj ⊢
        rw [p1] at hj
        rw [← hj]
        exact q1
      · rw [e] at hj ⊢
        rw [p2] at hj
        rw [← hj, ← Nat.add_assoc]
        exact q2
    have key : ∀ ty, ∃ v' w', (Builtin.append_ #[47, 47] ty #[.slice (some ⟨b, 0, none⟩) 0 0, .slice (some ad) l c3]).run Try.prog X = .ok v' w' ∧ w'.ownsRow b 143 2 v' (0 + l) ([] ++ cellsQ lb) ∧ X.grownBy w' (Value.slice (some ⟨b, 0, none⟩) 0 0).ownBlock ∧
        (v' = .slice none 0 0 ↔ Value.slice (some ⟨b, 0, none⟩) 0 0 = .slice none 0 0 ∧ l = 0) ∧ _ := fun ty =>
      run_append_own_at (P := Try.prog) X b 47 ty 143 i0 _ 2 16 Try.underlying47 hi0 hz0 hz1 hz2 rfl (by decide) _ 0 [] hown ad l c3 (cellsQ lb) (by rw [cellsQ_len, hl]) hnews (cellsQ_one _) (by unfold maxLen; omega) (by omega) (Nat.le_of_lt hblt)
    obtain ⟨v', w', hr, h2, h3, h4, _⟩ := key 0
    rw [Nat.zero_add, List.nil_append] at h2
    rcases h2.2 with ⟨hv, _⟩ | ⟨g, cap, cur, rfl, _⟩
    · exact absurd (h4.1 hv).1 (by intro e; cases e)
    · exact ⟨g, cap, w', fun ty => hr, h2, h3⟩
theorem lt_of_sameT {w w' : World} {b : Nat} (h : w'.heap[b]? = w.heap[b]?) (hb : b < w.heap.size) : b < w'.heap.size := by
  rw [Array.getElem?_eq_getElem hb] at h
  exact (Array.getElem?_eq_some_iff.1 h).1
/-- .. and one more. -/
theorem appQ2 {X : World} {nb l base : Nat} {V : Value} {lb : List PrT} {s e : Int} (hrow : X.ownsRow base 143 2 V l (cellsQ lb)) (hn : X.heap[nb]? = some (.cells #[.int .i64 s, .int .i64 e] 143 (0, 0))) (hf : l ≤ 100000) (hbase : base ≤ X.heap.size) :
    ∃ g2 c2 X', (∀ ty, (Builtin.append_ #[47, 47] ty #[V, .slice (some ⟨nb, 0, none⟩) 1 1]).run Try.prog X = .ok (.slice (some ⟨g2, 0, none⟩) (l + 1) c2) X') ∧ X'.ownsRow base 143 2 (.slice (some ⟨g2, 0, none⟩) (l + 1) c2) (l + 1) (cellsQ (lb ++ [(s, e)])) ∧ X.grownBy X' V.ownBlock := by
  obtain ⟨i0, hi0, hz0, hz1, hz2⟩ := info_parts info_pair
  obtain ⟨g2, c2, X', hr, h2, h3, _, _⟩ := run_append_lies (P := Try.prog) X 47 0 base 143 i0 _ 2 16 Try.underlying47 hi0 hz0 hz1 hz2 rfl (by decide) _ l (cellsQ lb) hrow ⟨nb, 0, none⟩ 1 1 [.int .i64 s, .int .i64 e] rfl (World.news_of_block (cs := #[.int .i64 s, .int .i64 e]) (t := 143) (fr := (0, 0)) hn) (by simp [Value.oneCell']) (by decide) (by unfold maxLen; omega) (by omega) hbase X.heap.size rfl
  exact ⟨g2, c2, X', fun ty => hr, by rw [cellsQ_snoc]; exact h2, h3⟩
theorem Bx.same {W W' : World} {b : Nat} {vs : List Value} (h : Bx W b vs) (hk : W'.heap[b]? = W.heap[b]?) : Bx W' b vs :=
  ⟨lt_of_sameT hk h.lt, fun j v hj => (World.cell?_of_block (w := W) (a := ⟨b, j, none⟩) hk).trans (h.c j v hj), fun j => (World.frozen?_of_block (w := W) (a := ⟨b, j, none⟩) hk).trans (h.f j)⟩
/-- Numbers in blocks from N on. -/
def RdA (N : Nat) (A : Option Addr) (L : List Int) (W : World) : Prop := ∀ k z, L[k]? = some z → ∃ b off, A = some ⟨b, off, none⟩ ∧ N ≤ b ∧ b < W.heap.size ∧ W.cell? ⟨b, off + k, none⟩ = some (.int .i64 z)
theorem RdA.set {N : Nat} {A : Option Addr} {L : List Int} {W : World} (h : RdA N A L W) {p : Addr} (hp : p.block < N) (v : Value) : RdA N A L (W.setCell p v) := fun k z hk => by
  obtain ⟨b, off, e, h1, h2, h3⟩ := h k z hk
  have hne : p.block ≠ b := by omega
  exact ⟨b, off, e, h1, by rw [World.size_setCell]; exact h2, by rw [World.cell?_setCell_far _ _ _ _ hne]; exact h3⟩
theorem heldL_few (L : List PrT) (w : Int) : (heldL L w).length ≤ 4097 := heldTo_len L w 4097
/-- An append whose run is known. -/
theorem wpList_append_run {P : Program} {ops : Array Oper} {rest : List Oper} {o : Oper} {a : Act} {Q : Exit → Act → World → Prop} {w : World} (hgd : o.guard = none) (s x : Operand) (t : TypeId)
    (ho : o.op = .call { callee := .builtin .append, args := #[s, x], argTypes := #[t, t] }) (v u R : Value) (W' : World) (hr : ∀ ty, (Builtin.append_ #[t, t] ty #[v, u]).run P w = .ok R W') (hs : a.eval s = v) (hx : a.eval x = u)
    (hK : wpList P ops Q rest (a.put o.dst R) W') : wpList P ops Q (o :: rest) a w := by
  refine wpList_plain hgd fun _ hK2 => ?_
  unfold Oper.wp execOp
  simp only [ho, resolve, invoke, builtin, Sem.run_bind, Sem.run_pure, Result.andThen_ok, List.map_toArray, List.map_cons, List.map_nil, hs, hx, hr]
  exact hK2 _ _ hK
/-- Not to be taken: it is held by the same one, or there is no such worker or mutex. -/
theorem take_not {x : LX} {v n : Int} (h : v < 0 ∨ 64 < v ∨ n < 0 ∨ 4096 < n ∨ hold x.hs n = some v) : takeB x v n = false ∧ takeX x v n = x := by
  have : ¬ (okW v = true ∧ okN n = true ∧ hold x.hs n ≠ some v) := fun ⟨h1, h2, h3⟩ => by
    have h1' : 0 ≤ v ∧ v ≤ 64 := by simpa [okW] using h1
    have h2' : 0 ≤ n ∧ n ≤ 4096 := by simpa [okN] using h2
    rcases h with h | h | h | h | h
    · omega
    · omega
    · omega
    · omega
    · exact h3 h
  exact ⟨(takeX_not this).2, (takeX_not this).1⟩
def AnyTo (n : Int) (H : List Int) (k : Nat) : Bool := (H.take k).any fun m => decide (n ≤ m)
theorem AnyTo.step {n : Int} {H : List Int} {k : Nat} {m : Int} (h : H[k]? = some m) : AnyTo n H (k + 1) = (AnyTo n H k || decide (n ≤ m)) := by
  unfold AnyTo
  rw [List.take_add_one, h, List.any_append]
  simp
theorem AnyTo.all (n : Int) (H : List Int) : AnyTo n H H.length = H.any fun m => decide (n ≤ m) := by
  unfold AnyTo
  rw [List.take_length]
/-- What is done before it is seen who holds the mutex: the flag and the waits are as they will be; the boxes stand. -/
def TMid (w : World) (A1 : Option Addr) (l1 c1 : Nat) (M : List PrT) (nb : Bool) (W : World) : Prop :=
  ∃ A5 c5, Bx W w.heap.size [.slice A1 l1 c1, .slice A5 M.length c5, .bool nb] ∧ Bx W (w.heap.size + 1) [.slice none 0 0, .slice none 0 0, .bool false] ∧ Below w.heap.size w W ∧ W.ownsRow (w.heap.size + 2) 143 2 (.slice A5 M.length c5) M.length (cellsQ M)
set_option maxRecDepth 100000 in
set_option maxHeartbeats 8000000 in
theorem RTake_any {w : World} {Z : Nat → Prop} {V : Value} {x : LX} (h : RT w Z V x) (hx : LFit x) (few1 : x.hs.length ≤ 1000) (few2 : x.ws.length ≤ 1000) (v n : Int) :
    Calls Try.prog 25 #[V, .int .i64 v, .int .i64 n] w (TOut w Z (takeB x v n) (takeX x v n)) := by
  obtain ⟨i1, hj0, hj1, hj2, hj3⟩ := info_parts info_pair
  obtain ⟨A1, c1, A2, c2, rfl, p1, p2⟩ := h.parts
  have HP1 := Lib.hid p1
  have HP2 := Lib.hid p2
  have HH := Lib.hid (fun W hb => RHolder_at (c1 := c1) (A2 := A2) (l2 := x.ws.length) (c2 := c2) (b := !x.up) (W := W) p1.1 hb rfl (Nat.le_trans few1 (by omega)) n)
  have HHE := Lib.hid (fun W hb => RHeld_any (c1 := c1) (A2 := A2) (l2 := x.ws.length) (c2 := c2) (b := !x.up) (w := W) (p1.1.later hb) rfl (Nat.le_trans few1 (by omega)) v)
  have HRE := Lib.hid (fun W hb => RRest_any (c := c2) (w := W) (p2.1.later hb) (Nat.le_trans few2 (by omega)) v)
  have HT := Lib.hid (two_boxes w (.slice A1 x.hs.length c1) (.slice A2 x.ws.length c2) (.bool (!x.up)) (.slice none 0 0) (.slice none 0 0) (.bool false) 49)
  have HNOT := Lib.hid (fun h => take_not (x := x) (v := v) (n := n) h)
  have HAB := Lib.hid (above_held hx n v)
  have HYES := Lib.hid (fun h1 h2 h3 => takeX_none (x := x) (v := v) (k := n) h1 h2 h3)
  have HOTH := Lib.hid (fun u h1 h2 h3 h4 => takeX_other (x := x) (v := v) (k := n) (u := u) h1 h2 h3 h4)
  clear h p1 p2 hx
  unfold tV at HHE
  generalize hup : (!x.up) = nu at *
  go_enter Try.func25, Try.ntmps25
  go_upto_region 1 with (fail)
  obtain ⟨W0, hW0⟩ : ∃ W0, W0 = (w.alloc (.cells #[.slice A1 x.hs.length c1, .slice A2 x.ws.length c2, .bool nu] 49)).alloc (.cells #[.slice none 0 0, .slice none 0 0, .bool false] 49) := ⟨_, rfl⟩
  rw [← hW0] at HT ⊢
  clear hW0
  have x0 := HT.out.1.c 0 _ rfl
  have x1 := HT.out.1.c 1 _ rfl
  have x2 := HT.out.1.c 2 _ rfl
  have HC := Lib.hid (HH.out W0 HT.out.2.2.1)
  go_wp2_with fail
  refine HC.out.mono ?_
  rintro e w1 ⟨rfl, hb1⟩
  have HD := Lib.hid (HT.out.1.below hb1)
  have HR := Lib.hid (HT.out.2.1.below hb1)
  have HB := Lib.hid (Below.next HT.out.2.2.1 hb1)
  have hs1 : w.heap.size + 2 ≤ w1.heap.size := by
    have := HT.out.2.2.2
    have := hb1.size
    omega
  clear HC HH HT x0 x1 x2 hb1
  have x0 := HD.out.c 0 _ rfl
  have x1 := HD.out.c 1 _ rfl
  have x2 := HD.out.c 2 _ rfl
  by_cases hbad : v < 0 ∨ 64 < v ∨ n < 0 ∨ 4096 < n ∨ hold x.hs n = some v
  · have y0 := HR.out.c 0 _ rfl
    have y1 := HR.out.c 1 _ rfl
    have y2 := HR.out.c 2 _ rfl
    have k0 := HR.out.f 0
    have k1 := HR.out.f 1
    have k2 := HR.out.f 2
    have HPP := Lib.hid (HR.out.put3 (.slice A1 x.hs.length c1) (.slice A2 x.ws.length c2) (.bool nu))
    have HRES : Hid (TOut w Z (takeB x v n) (takeX x v n) (.returned (.tuple #[.agg #[.slice A1 x.hs.length c1, .slice A2 x.ws.length c2, .bool nu], .bool false])) (((w1.setCell ⟨w.heap.size + 1, 0, none⟩ (.slice A1 x.hs.length c1)).setCell ⟨w.heap.size + 1, 1, none⟩ (.slice A2 x.ws.length c2)).setCell ⟨w.heap.size + 1, 2, none⟩ (.bool nu))) := Lib.hid (by
      have hB := below_put3 (b := w.heap.size + 1) HB.out (by omega) (.slice A1 x.hs.length c1) (.slice A2 x.ws.length c2) (.bool nu)
      rw [(HNOT.out hbad).1, (HNOT.out hbad).2]
      exact ⟨_, rfl, RT.mk (HP1.out.old hB) (HP2.out.old hB) rfl rfl _ hup.symm, hB⟩)
    have hcase : v < 0 ∨ (¬ v < 0 ∧ 64 < v) ∨ (¬ v < 0 ∧ ¬ 64 < v ∧ n < 0) ∨ (¬ v < 0 ∧ ¬ 64 < v ∧ ¬ n < 0 ∧ 4096 < n) ∨ (¬ v < 0 ∧ ¬ 64 < v ∧ ¬ n < 0 ∧ ¬ 4096 < n ∧ hold x.hs n = some v) := by
      rcases hbad with h | h | h | h | h
      · omega
      · omega
      · omega
      · omega
      · by_cases a1 : v < 0
        · exact .inl a1
        · by_cases a2 : 64 < v
          · exact .inr (.inl ⟨a1, a2⟩)
          · by_cases a3 : n < 0
            · exact .inr (.inr (.inl ⟨a1, a2, a3⟩))
            · by_cases a4 : 4096 < n
              · exact .inr (.inr (.inr (.inl ⟨a1, a2, a3, a4⟩)))
              · exact .inr (.inr (.inr (.inr ⟨a1, a2, a3, a4, h⟩)))
    clear HNOT HP1 HP2 HD HR HB HAB HYES HOTH HHE HRE hbad
    have hgI := hold x.hs n
    rcases hcase with h | ⟨h1, h⟩ | ⟨h1, h2, h⟩ | ⟨h1, h2, h3, h⟩ | ⟨h1, h2, h3, h4, h⟩
    all_goals
      first | (rw [h]; simp only [gotI, gotB, Option.getD_some, Option.isSome_some]; clear h) | skip
      go_wp2
      have q0 := HPP.out.c 0 _ rfl
      have q1 := HPP.out.c 1 _ rfl
      have q2 := HPP.out.c 2 _ rfl
      exact bodyPost_ret (v := .tuple #[.agg #[.slice A1 x.hs.length c1, .slice A2 x.ws.length c2, .bool nu], .bool false]) (by simp [results, Try.results25, go_sem, q0, q1, q2]) rfl HRES.out
  · have g1 : ¬ v < 0 := fun e => hbad (.inl e)
    have g2 : ¬ 64 < v := fun e => hbad (.inr (.inl e))
    have g3 : ¬ n < 0 := fun e => hbad (.inr (.inr (.inl e)))
    have g4 : ¬ 4096 < n := fun e => hbad (.inr (.inr (.inr (.inl e))))
    have g5 : hold x.hs n ≠ some v := fun e => hbad (.inr (.inr (.inr (.inr e))))
    have HOK1 : Hid (okW v = true) := Lib.hid (by simp [okW]; omega)
    have HOK2 : Hid (okN n = true) := Lib.hid (by simp [okN]; omega)
    obtain ⟨o9, ho9⟩ : ∃ o9, hold x.hs n = o9 := ⟨_, rfl⟩
    have HO9 := Lib.hid ho9
    rw [ho9] at g5 ⊢
    clear ho9 hbad HNOT
    obtain ⟨i9, hi9⟩ : ∃ i9, gotI o9 = i9 := ⟨_, rfl⟩
    obtain ⟨b9, hb9⟩ : ∃ b9, gotB o9 = b9 := ⟨_, rfl⟩
    have HCASE : Hid ((o9 = none ∧ b9 = false) ∨ ∃ u, u ≠ v ∧ o9 = some u ∧ b9 = true ∧ i9 = u) := Lib.hid (by
      cases o9 with
      | none => exact .inl ⟨rfl, hb9.symm⟩
      | some u => exact .inr ⟨u, fun e => g5 (by rw [e]), rfl, hb9.symm, hi9.symm⟩)
    rw [hi9, hb9]
    clear hi9 hb9 g5
    go_upto_region 2 with (fail)
    go_cut [39] (fun r wc => r = .bool false ∧ wc = w1)
    case first =>
      rcases HCASE.out with ⟨_, rfl⟩ | ⟨u, hu, _, rfl, rfl⟩
      all_goals
        go_wp2
        go_meet
        refine ⟨?_, rfl⟩
        simp [g1, g2, g3, g4] <;> first | exact hu | omega
    case rest =>
      obtain ⟨rfl, rfl⟩ := hcut
      have HC := Lib.hid (HHE.out wc HB.out)
      go_wp2_with fail
      refine HC.out.mono ?_
      rintro e w2 ⟨A9, c9, rfl, hr9, hb2⟩
      have hlH := heldL_few x.hs v
      generalize heldL x.hs v = H at *
      have HI := Lib.hid (show RdA (w.heap.size + 2) A9 H w2 from fun k z hk => by
        obtain ⟨b, off, e, h1, h2, h3⟩ := hr9 k z hk
        exact ⟨b, off, e, by omega, h2, h3⟩)
      have HD2 : Hid (Bx w2 w.heap.size [.slice A1 x.hs.length c1, .slice A2 x.ws.length c2, .bool (nu || AnyTo n H 0)]) := Lib.hid (by
        have : (nu || AnyTo n H 0) = nu := by simp [AnyTo]
        rw [this]
        exact HD.out.below hb2)
      have HR2 := Lib.hid (HR.out.below hb2)
      have HB2 := Lib.hid (Below.next HB.out hb2)
      clear HC HHE HD HR HB hr9 hb2 x0 x1 x2 hs1
      go_wp2
      go_loopw [45] (fun i wr => ∃ k : Nat, k ≤ H.length ∧ i = .int .i64 (k : Int) ∧ Below w.heap.size w wr ∧ Bx wr w.heap.size [.slice A1 x.hs.length c1, .slice A2 x.ws.length c2, .bool (nu || AnyTo n H k)] ∧ Bx wr (w.heap.size + 1) [.slice none 0 0, .slice none 0 0, .bool false] ∧ RdA (w.heap.size + 2) A9 H wr) (fun i _ => H.length - (intOf i).toNat)
      case atStart => exact ⟨0, Nat.zero_le _, rfl, HB2.out, HD2.out, HR2.out, HI.out⟩
      case round =>
        clear HI HD2 HR2 HB2
        obtain ⟨k, hk, rfl, hb, hd, hr, hi⟩ := hrel
        by_cases hlt : k < H.length
        · obtain ⟨bb, off, rfl, _, hbb, q0⟩ := hi k _ (List.getElem?_eq_getElem hlt)
          have hst := AnyTo.step (n := n) (List.getElem?_eq_getElem hlt)
          generalize H[k] = m at *
          have hkl : (k : Int) < (H.length : Int) := by omega
          have hk0 : (0 : Int) ≤ (k : Int) := by omega
          have hst2 : (nu || AnyTo n H (k + 1)) = ((nu || AnyTo n H k) || decide (n ≤ m)) := by rw [hst, Bool.or_assoc]
          have x2 := hd.c 2 _ rfl
          have d2 := hd.f 2
          have HDN := Lib.hid (fun b => hd.set 2 (.bool b))
          have HRN := Lib.hid (fun b => hr.other (a := ⟨w.heap.size, 2, none⟩) (by simp) (.bool b))
          have HBN := Lib.hid (fun b => bl1 (k := 2) hb (Nat.le_refl w.heap.size) (.bool b))
          have HIN := Lib.hid (fun b => hi.set (p := ⟨w.heap.size, 2, none⟩) (by simp) (.bool b))
          have HST := Lib.hid hst2
          generalize (nu || AnyTo n H k) = bq at *
          clear hb hd hr hi hst hst2
          cases bq with
          | true =>
            have HN : Hid ((nu || AnyTo n H (k + 1)) = true) := Lib.hid (by rw [HST.out, Bool.true_or])
            clear HST
            go_wp2
            go_roundw
            case rel => exact ⟨k + 1, by omega, by go_num, HBN.out _, by rw [HN.out]; exact HDN.out true, HRN.out _, HIN.out _⟩
            case measure => simp [intOf]; omega
          | false =>
            by_cases hmn : n ≤ m
            · have HN : Hid ((nu || AnyTo n H (k + 1)) = true) := Lib.hid (by rw [HST.out, decide_eq_true hmn, Bool.or_true])
              clear HST
              go_wp2
              go_roundw
              case rel => exact ⟨k + 1, by omega, by go_num, HBN.out _, by rw [HN.out]; exact HDN.out true, HRN.out _, HIN.out _⟩
              case measure => simp [intOf]; omega
            · have HN : Hid ((nu || AnyTo n H (k + 1)) = false) := Lib.hid (by rw [HST.out, decide_eq_false hmn, Bool.or_false])
              clear HST
              go_wp2
              go_roundw
              case rel => exact ⟨k + 1, by omega, by go_num, HBN.out _, by rw [HN.out]; exact HDN.out false, HRN.out _, HIN.out _⟩
              case measure => simp [intOf]; omega
        · obtain rfl : k = H.length := by omega
          have hab : (nu || AnyTo n H H.length) = !(x.up && aboveB x.hs n v) := by rw [AnyTo.all, HAB.out]
          rw [hab] at hd
          generalize hnb : (!(x.up && aboveB x.hs n v)) = nb at *
          have HD3 := Lib.hid hd
          have HR3 := Lib.hid hr
          have HB3 := Lib.hid hb
          have x1 := hd.c 1 _ rfl
          have hsz : w.heap.size + 2 ≤ wr.heap.size := by
            have := hr.lt
            omega
          have HC := Lib.hid (HRE.out wr hb)
          clear hb hd hr hi hab HAB HRE
          go_wp2_with fail
          refine HC.out.mono ?_
          rintro e w5 ⟨A5, c5, rfl, ho5, hb5⟩
          have hlM : (restL x.ws v).length ≤ 1000 := Nat.le_trans (List.length_filter_le _ _) few2
          generalize hM : restL x.ws v = M at *
          have HDb := HD3.out.below hb5
          have z1 := HDb.c 1 _ rfl
          have d1 := HDb.f 1
          have HD4 := Lib.hid (HDb.set 1 (.slice A5 M.length c5))
          have HR4 := Lib.hid ((HR3.out.below hb5).other (a := ⟨w.heap.size, 1, none⟩) (by simp) (.slice A5 M.length c5))
          have HB4 := Lib.hid (bl1 (k := 1) (Below.next HB3.out hb5) (Nat.le_refl w.heap.size) (.slice A5 M.length c5))
          have HO4 := Lib.hid (ownsRow_same (w' := w5.setCell ⟨w.heap.size, 1, none⟩ (.slice A5 M.length c5)) ho5 (fun q hq => Below.heap_setCell _ _ _ _ (by have := (ho5.lt q hq).1; show q ≠ w.heap.size; omega)))
          have HWX : Hid (wr.heap.size ≤ (w5.setCell ⟨w.heap.size, 1, none⟩ (.slice A5 M.length c5)).heap.size) := Lib.hid (by rw [World.size_setCell]; exact hb5.size)
          clear HC HD3 HR3 HB3 ho5 hb5 HDb x1
          go_upto_region 10 with (fail)
          generalize w5.setCell ⟨w.heap.size, 1, none⟩ (.slice A5 M.length c5) = X at *
          clear z1 d1
          rcases HCASE.out with ⟨rfl, rfl⟩ | ⟨u, hu, rfl, rfl, rfl⟩
          · obtain ⟨ht1, ht2⟩ := HYES.out HOK1.out HOK2.out HO9.out
            have HG : Hid (takeB x v n = true ∧ takeX x v n = ⟨x.hs ++ [(n, v)], M, x.up && aboveB x.hs n v⟩) := Lib.hid ⟨ht2, ht1⟩
            have hsX : w.heap.size + 2 ≤ X.heap.size := by
              have := HR4.out.lt
              omega
            obtain ⟨gA, eA, X2, hr1, ho1, hg1⟩ := appQ1 (X := X.alloc (.cells #[] 143)) (b := X.heap.size) (c3 := c1) (heap_alloc_last X _) (HP1.out.1.later (HB4.out.alloc HB4.out.size (.cells #[] 143))) rfl (Nat.le_trans few1 (by omega))
            have hbX2 : Below X.heap.size X X2 := ((Below.refl X.heap.size X).alloc (Nat.le_refl _) (.cells #[] 143)).grown hg1 (by simp) (fun q hq => by injection hq with hq; omega)
            obtain ⟨g2, e2, X4, hr2, ho2, hg2⟩ := appQ2 (X := X2.alloc (.cells #[.int .i64 n, .int .i64 v] 143)) (nb := X2.heap.size) (base := X.heap.size) (s := n) (e := v) (ho1.alloc _) (heap_alloc_last X2 _) (Nat.le_trans few1 (by omega)) (by rw [World.size_alloc]; have := hbX2.size; omega)
            have hbX4 : Below X.heap.size X X4 := (hbX2.alloc hbX2.size (.cells #[.int .i64 n, .int .i64 v] 143)).grown hg2 (by rw [World.size_alloc]; have := hbX2.size; omega) (fun q hq => (ho1.lt q hq).1)
            have x0 := (HD4.out.below ((Below.refl X.heap.size X).alloc (Nat.le_refl _) (.cells #[] 143))).c 0 _ rfl
            have z0 := (HD4.out.below hbX4).c 0 _ rfl
            have d0 := (HD4.out.below hbX4).f 0
            have HDF := Lib.hid ((HD4.out.below hbX4).set 0 (.slice (some ⟨g2, 0, none⟩) (x.hs.length + 1) e2))
            have HRF := Lib.hid ((HR4.out.below hbX4).other (a := ⟨w.heap.size, 0, none⟩) (by simp) (.slice (some ⟨g2, 0, none⟩) (x.hs.length + 1) e2))
            have HBF := Lib.hid (bl1 (k := 0) (Below.next HB4.out hbX4) (Nat.le_refl w.heap.size) (.slice (some ⟨g2, 0, none⟩) (x.hs.length + 1) e2))
            have HQ1 := Lib.hid (((Pn.of_own ho2 (by simp)).less (N' := w.heap.size + 2) hsX).set (p := ⟨w.heap.size, 0, none⟩) (by simp) (.slice (some ⟨g2, 0, none⟩) (x.hs.length + 1) e2))
            have HQ2 := Lib.hid ((((Pn.of_own HO4.out rfl).less (N' := w.heap.size + 2) hsz).below hbX4).set (p := ⟨w.heap.size, 0, none⟩) (by simp) (.slice (some ⟨g2, 0, none⟩) (x.hs.length + 1) e2))
            have HR1 := Lib.hid hr1
            have HR2 := Lib.hid hr2
            clear hr1 hr2 hg1 hbX2 ho1 hg2 ho2 hbX4 HYES HOTH ht1 ht2 HCASE HO9
            go_upto_region 14 with (first | (at_builtin; refine wpList_append_run rfl _ _ _ rfl _ _ _ _ HR1.out rfl rfl ?_) | (at_builtin; refine wpList_append_run rfl _ _ _ rfl _ _ _ _ HR2.out rfl rfl ?_))
            clear HR1 HR2 x0
            generalize X4.setCell ⟨w.heap.size, 0, none⟩ (.slice (some ⟨g2, 0, none⟩) (x.hs.length + 1) e2) = Y at *
            clear z0 d0
            have x0 := HDF.out.c 0 _ rfl
            have x1 := HDF.out.c 1 _ rfl
            have x2 := HDF.out.c 2 _ rfl
            have y0 := HRF.out.c 0 _ rfl
            have y1 := HRF.out.c 1 _ rfl
            have y2 := HRF.out.c 2 _ rfl
            have k0 := HRF.out.f 0
            have k1 := HRF.out.f 1
            have k2 := HRF.out.f 2
            have hN : w.heap.size ≤ w.heap.size + 2 := by omega
            have HPP := Lib.hid (HRF.out.put3 (.slice (some ⟨g2, 0, none⟩) (x.hs.length + 1) e2) (.slice A5 M.length c5) (.bool nb))
            have HRES : Hid (TOut w Z (takeB x v n) (takeX x v n) (.returned (.tuple #[.agg #[.slice (some ⟨g2, 0, none⟩) (x.hs.length + 1) e2, .slice A5 M.length c5, .bool nb], .bool true])) (((Y.setCell ⟨w.heap.size + 1, 0, none⟩ (.slice (some ⟨g2, 0, none⟩) (x.hs.length + 1) e2)).setCell ⟨w.heap.size + 1, 1, none⟩ (.slice A5 M.length c5)).setCell ⟨w.heap.size + 1, 2, none⟩ (.bool nb))) := Lib.hid (by
              have hBF := below_put3 (b := w.heap.size + 1) HBF.out (by omega) (.slice (some ⟨g2, 0, none⟩) (x.hs.length + 1) e2) (.slice A5 M.length c5) (.bool nb)
              rw [HG.out.1, HG.out.2]
              refine ⟨_, rfl, RT.mk ((((HQ1.out.set (p := ⟨w.heap.size + 1, 0, none⟩) (by simp) _).set (p := ⟨w.heap.size + 1, 1, none⟩) (by simp) _).set (p := ⟨w.heap.size + 1, 2, none⟩) (by simp) _).pz hN) ((((HQ2.out.set (p := ⟨w.heap.size + 1, 0, none⟩) (by simp) _).set (p := ⟨w.heap.size + 1, 1, none⟩) (by simp) _).set (p := ⟨w.heap.size + 1, 2, none⟩) (by simp) _).pz hN) (by simp) (by simp) _ hnb.symm, hBF⟩)
            clear HQ1 HQ2 HO4 HD4 HR4 HB4 HDF HRF HBF HG HP1 HP2
            go_wp2
            have q0 := HPP.out.c 0 _ rfl
            have q1 := HPP.out.c 1 _ rfl
            have q2 := HPP.out.c 2 _ rfl
            exact bodyPost_ret (v := .tuple #[.agg #[.slice (some ⟨g2, 0, none⟩) (x.hs.length + 1) e2, .slice A5 M.length c5, .bool nb], .bool true]) (by simp [results, Try.results25, go_sem, q0, q1, q2]) rfl HRES.out
          · obtain ⟨ht1, ht2⟩ := HOTH.out i9 HOK1.out HOK2.out HO9.out hu
            have HG : Hid (takeB x v n = false ∧ takeX x v n = ⟨x.hs, M ++ [(n, v)], x.up && aboveB x.hs n v⟩) := Lib.hid ⟨ht2, ht1⟩
            have hsX : w.heap.size + 2 ≤ X.heap.size := by
              have := HR4.out.lt
              omega
            have hwX : wr.heap.size ≤ X.heap.size := HWX.out
            obtain ⟨g2, e2, X4, hr2, ho2, hg2⟩ := appQ2 (X := X.alloc (.cells #[.int .i64 n, .int .i64 v] 143)) (nb := X.heap.size) (base := wr.heap.size) (s := n) (e := v) (HO4.out.alloc _) (heap_alloc_last X _) (Nat.le_trans hlM (by omega)) (by rw [World.size_alloc]; omega)
            have hbX4 : Below w.heap.size w X4 := (HB4.out.alloc HB4.out.size (.cells #[.int .i64 n, .int .i64 v] 143)).grown hg2 (by rw [World.size_alloc]; omega) (fun q hq => by have := (HO4.out.lt q hq).1; omega)
            have hsm : ∀ q, q < w.heap.size + 2 → X4.heap[q]? = X.heap[q]? := fun q hq => (hg2.block q (by rw [World.size_alloc]; omega) (fun e => by have := (HO4.out.lt q e.symm).1; omega)).trans (Below.heap_alloc _ _ _ (by omega))
            have x1 := HD4.out.c 1 _ rfl
            have x1' := (HD4.out.below (below_new X (.cells #[.int .i64 n, .int .i64 v] 143))).c 1 _ rfl
            have z0 := (HD4.out.same (hsm w.heap.size (by omega))).c 1 _ rfl
            have d0 := (HD4.out.same (hsm w.heap.size (by omega))).f 1
            have HDF := Lib.hid ((HD4.out.same (hsm w.heap.size (by omega))).set 1 (.slice (some ⟨g2, 0, none⟩) (M.length + 1) e2))
            have HRF := Lib.hid ((HR4.out.same (hsm (w.heap.size + 1) (by omega))).other (a := ⟨w.heap.size, 1, none⟩) (by simp) (.slice (some ⟨g2, 0, none⟩) (M.length + 1) e2))
            have HBF := Lib.hid (bl1 (k := 1) hbX4 (Nat.le_refl w.heap.size) (.slice (some ⟨g2, 0, none⟩) (M.length + 1) e2))
            have HQ2 := Lib.hid (((Pn.of_own ho2 (by simp)).less (N' := w.heap.size + 2) hsz).set (p := ⟨w.heap.size, 1, none⟩) (by simp) (.slice (some ⟨g2, 0, none⟩) (M.length + 1) e2))
            have HR2 := Lib.hid hr2
            clear hr2 hsm hg2 ho2 hbX4 HYES HOTH ht1 ht2 HCASE HO9 x1'
            go_upto_region 12 with (at_builtin; refine wpList_append_run rfl _ _ _ rfl _ _ _ _ HR2.out rfl rfl ?_)
            clear HR2 x1
            generalize X4.setCell ⟨w.heap.size, 1, none⟩ (.slice (some ⟨g2, 0, none⟩) (M.length + 1) e2) = Y at *
            clear z0 d0
            have x0 := HDF.out.c 0 _ rfl
            have x1 := HDF.out.c 1 _ rfl
            have x2 := HDF.out.c 2 _ rfl
            have y0 := HRF.out.c 0 _ rfl
            have y1 := HRF.out.c 1 _ rfl
            have y2 := HRF.out.c 2 _ rfl
            have k0 := HRF.out.f 0
            have k1 := HRF.out.f 1
            have k2 := HRF.out.f 2
            have hN : w.heap.size ≤ w.heap.size + 2 := by omega
            have HPP := Lib.hid (HRF.out.put3 (.slice A1 x.hs.length c1) (.slice (some ⟨g2, 0, none⟩) (M.length + 1) e2) (.bool nb))
            have HRES : Hid (TOut w Z (takeB x v n) (takeX x v n) (.returned (.tuple #[.agg #[.slice A1 x.hs.length c1, .slice (some ⟨g2, 0, none⟩) (M.length + 1) e2, .bool nb], .bool false])) (((Y.setCell ⟨w.heap.size + 1, 0, none⟩ (.slice A1 x.hs.length c1)).setCell ⟨w.heap.size + 1, 1, none⟩ (.slice (some ⟨g2, 0, none⟩) (M.length + 1) e2)).setCell ⟨w.heap.size + 1, 2, none⟩ (.bool nb))) := Lib.hid (by
              have hBF := below_put3 (b := w.heap.size + 1) HBF.out (by omega) (.slice A1 x.hs.length c1) (.slice (some ⟨g2, 0, none⟩) (M.length + 1) e2) (.bool nb)
              rw [HG.out.1, HG.out.2]
              refine ⟨_, rfl, RT.mk (HP1.out.old hBF) ((((HQ2.out.set (p := ⟨w.heap.size + 1, 0, none⟩) (by simp) _).set (p := ⟨w.heap.size + 1, 1, none⟩) (by simp) _).set (p := ⟨w.heap.size + 1, 2, none⟩) (by simp) _).pz hN) (by simp) (by simp) _ hnb.symm, hBF⟩)
            clear HQ2 HO4 HD4 HR4 HB4 HDF HRF HBF HG HP1 HP2
            go_wp2
            have q0 := HPP.out.c 0 _ rfl
            have q1 := HPP.out.c 1 _ rfl
            have q2 := HPP.out.c 2 _ rfl
            exact bodyPost_ret (v := .tuple #[.agg #[.slice A1 x.hs.length c1, .slice (some ⟨g2, 0, none⟩) (M.length + 1) e2, .bool nb], .bool false]) (by simp [results, Try.results25, go_sem, q0, q1, q2]) rfl HRES.out
end Go.Proofs.Ytdgmcaehadigaaa
