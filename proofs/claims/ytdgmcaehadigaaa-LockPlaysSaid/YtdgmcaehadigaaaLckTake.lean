/- lock's New, Take and Give, by contract. -/
import Derived.Test.YtdgmcaehadigaaaLckDo
namespace Go.Proofs.Ytdgmcaehadigaaa
open Go.RowKit Go.Maps

section
variable {w w' : World} {B bh bw n : Nat} {x : LX}
theorem Tab.rise (h : Tab w B bh bw n x) (u : Bool) : Tab (w.setCell ⟨B, 2, none⟩ (.bool u)) B bh bw n ⟨x.hs, x.ws, u⟩ := by
  have q : ∀ b, b ≠ B → (w.setCell ⟨B, 2, none⟩ (.bool u)).heap[b]? = w.heap[b]? := fun b hb => Below.heap_setCell _ _ _ _ hb
  have o : ∀ j, 2 ≠ j → (w.setCell ⟨B, 2, none⟩ (.bool u)).cell? ⟨B, j, none⟩ = w.cell? ⟨B, j, none⟩ := fun j hj => World.cell?_setCell_other _ _ _ _ (fun e => hj (by injection e))
  exact ⟨(o 0 (by decide)).trans h.c0, (o 1 (by decide)).trans h.c1, World.cell?_setCell_same _ _ _ h.c2, (World.frozen?_setCell _ _ _ _).trans h.f2,
    h.mh.same (q _ (fun e => h.mh.not_cell h.c0 e.symm)), h.mw.same (q _ (fun e => h.mw.not_cell h.c0 e.symm)), h.ne⟩
theorem Tab.turnH (h : Tab w B bh bw n x) {n' : Nat} (hn : n ≤ n') {hs : List PrT} (hm : MapO w' bh n' (hold hs)) (ht : w.mapTurned w' bh) : Tab w' B bh bw n' ⟨hs, x.ws, x.up⟩ := by
  have g := ht.grown
  have hB : w'.heap[B]? = w.heap[B]? := g.block B h.lt (fun e => h.mh.not_cell h.c0 (by injection e))
  exact ⟨(World.cell?_of_block (w := w) hB).trans h.c0, (World.cell?_of_block (w := w) hB).trans h.c1, (World.cell?_of_block (w := w) hB).trans h.c2, (World.frozen?_of_block (w := w) hB).trans h.f2,
    hm, (h.mw.same (g.block bw h.mw.lt (fun e => h.ne (by injection e with e; exact e.symm)))).mono hn, h.ne⟩
theorem Tab.turnW (h : Tab w B bh bw n x) {n' : Nat} (hn : n ≤ n') {ws : List PrT} (hm : MapO w' bw n' (waitOf ws)) (ht : w.mapTurned w' bw) : Tab w' B bh bw n' ⟨x.hs, ws, x.up⟩ := by
  have g := ht.grown
  have hB : w'.heap[B]? = w.heap[B]? := g.block B h.lt (fun e => h.mw.not_cell h.c0 (by injection e))
  exact ⟨(World.cell?_of_block (w := w) hB).trans h.c0, (World.cell?_of_block (w := w) hB).trans h.c1, (World.cell?_of_block (w := w) hB).trans h.c2, (World.frozen?_of_block (w := w) hB).trans h.f2,
    (h.mh.same (g.block bh h.mh.lt (fun e => h.ne (by injection e)))).mono hn, hm, h.ne⟩
end
theorem chg_turned {M : Nat → Prop} {w w' : World} {b : Nat} (hb : M b) (k : w.mapTurned w' b) : Chg M w w' := Chg.refl.turned hb k

/-- What a change leaves of a table. -/
def TabOut (w : World) (B bh bw n : Nat) (x : LX) (r : Bool) (e : Ending) (w' : World) : Prop :=
  e = .returned (.bool r) ∧ Tab w' B bh bw n x ∧ Chg (TabM B bh bw) w w'

section
variable {w : World} {B bh bw n : Nat} {x : LX}
theorem takeX_none {v k : Int} (h1 : okW v = true) (h2 : okN k = true) (h3 : hold x.hs k = none) : takeX x v k = ⟨x.hs ++ [(k, v)], restL x.ws v, x.up && aboveB x.hs k v⟩ ∧ takeB x v k = true := by
  unfold takeX takeB
  rw [if_pos ⟨h1, h2, by rw [h3]; simp⟩, h3, h1, h2]
  exact ⟨rfl, rfl⟩
theorem takeX_other {v k u : Int} (h1 : okW v = true) (h2 : okN k = true) (h3 : hold x.hs k = some u) (hne : u ≠ v) : takeX x v k = ⟨x.hs, restL x.ws v ++ [(k, v)], x.up && aboveB x.hs k v⟩ ∧ takeB x v k = false := by
  unfold takeX takeB
  rw [if_pos ⟨h1, h2, by rw [h3]; simp [hne]⟩, h3, h1, h2]
  exact ⟨rfl, rfl⟩
theorem takeX_not {v k : Int} (h : ¬ (okW v = true ∧ okN k = true ∧ hold x.hs k ≠ some v)) : takeX x v k = x ∧ takeB x v k = false := by
  unfold takeX takeB
  rw [if_neg h]
  refine ⟨rfl, ?_⟩
  cases h1 : okW v
  · rfl
  · cases h2 : okN k
    · rfl
    · cases h3 : hold x.hs k
      · exact absurd ⟨h1, h2, by rw [h3]; simp⟩ h
      · rfl
/-- The maps, changed. -/
theorem Tab.wait {w : World} (h : Tab w B bh bw n x) (hn : n < 100000) {v k : Int} (hv : IsI v) (hk : IsI k) :
    ∃ w', (Instr.mapUpdate 139 (.map (some bw)) (.int .i64 v) (.int .i64 k)).run Try.prog w = .ok () w' ∧ Tab w' B bh bw (n + 1) ⟨x.hs, restL x.ws v ++ [(k, v)], x.up⟩ ∧ Chg (TabM B bh bw) w w' := by
  obtain ⟨w', h1, h2, h3⟩ := h.mw.put (by unfold maxLen; omega) hv hk
  exact ⟨w', h1, h.turnW (by omega) (h2.eq fun j _ => (wait_snoc _ _ _ _).symm) h3, chg_turned (.inr (.inr rfl)) h3⟩
theorem Tab.take {w : World} (h : Tab w B bh bw n x) (hn : n < 100000) {v k : Int} (hv : IsI v) (hk : IsI k) (hf : hold x.hs k = none) :
    ∃ w', (Instr.mapUpdate 139 (.map (some bh)) (.int .i64 k) (.int .i64 v)).run Try.prog w = .ok () w' ∧ Tab w' B bh bw (n + 1) ⟨x.hs ++ [(k, v)], x.ws, x.up⟩ ∧ Chg (TabM B bh bw) w w' := by
  obtain ⟨w', h1, h2, h3⟩ := h.mh.put (by unfold maxLen; omega) hk hv
  exact ⟨w', h1, h.turnH (by omega) (h2.eq fun j _ => (hold_snoc _ _ _ _ hf).symm) h3, chg_turned (.inr (.inl rfl)) h3⟩
theorem Tab.ends {w : World} (h : Tab w B bh bw n x) {v : Int} (hv : IsI v) :
    ∃ w', (∀ ty, (Builtin.delete_ #[139, 3] ty #[.map (some bw), .int .i64 v]).run Try.prog w = .ok (.tuple #[]) w') ∧ Tab w' B bh bw n ⟨x.hs, restL x.ws v, x.up⟩ ∧ Chg (TabM B bh bw) w w' := by
  obtain ⟨w', h1, h2, h3⟩ := h.mw.drop hv
  exact ⟨w', h1, h.turnW (Nat.le_refl _) (h2.eq fun j _ => (wait_rest _ _ _).symm) h3, chg_turned (.inr (.inr rfl)) h3⟩
theorem Tab.free {w : World} (h : Tab w B bh bw n x) {k : Int} (hk : IsI k) :
    ∃ w', (∀ ty, (Builtin.delete_ #[139, 3] ty #[.map (some bh), .int .i64 k]).run Try.prog w = .ok (.tuple #[]) w') ∧ Tab w' B bh bw n ⟨freeL x.hs k, x.ws, x.up⟩ ∧ Chg (TabM B bh bw) w w' := by
  obtain ⟨w', h1, h2, h3⟩ := h.mh.drop hk
  exact ⟨w', h1, h.turnH (Nat.le_refl _) (h2.eq fun j _ => (hold_free _ _ _).symm) h3, chg_turned (.inr (.inl rfl)) h3⟩

set_option maxRecDepth 100000 in
set_option maxHeartbeats 4000000 in
theorem Take_any (h : Tab w B bh bw n x) (hx : LFit x) (hn : n < 100000) (v k : Int) (hv : IsI v) (hk : IsI k) :
    Calls Try.prog 26 #[.pointer (some ⟨B, 0, none⟩), .int .i64 v, .int .i64 k] w (TabOut w B bh bw (n + 1) (takeX x v k) (takeB x v k)) := by
  have same : takeX x v k = x ∧ takeB x v k = false → TabOut w B bh bw (n + 1) (takeX x v k) (takeB x v k) (.returned (.bool false)) w := fun e => by
    rw [e.1, e.2]
    exact ⟨rfl, h.more (by omega), Chg.refl⟩
  have HS := Lib.hid same
  have HH := Lib.hid (Holder_any (.inr ⟨B, bh, bw, n, rfl, h⟩) k hk)
  have HA := Lib.hid (above_any h hx k v)
  have HT := Lib.hid h
  have c1 := h.c1
  have c0 := h.c0
  have c2 := h.c2
  have f2 := h.f2
  clear same h
  cases h1 : okW v with
  | false =>
    have HW := Lib.hid h1
    have HO := Lib.hid (HS.out (takeX_not fun e => by rw [h1] at e; cases e.1))
    clear h1
    go_enter Try.func26, Try.ntmps26
    go_wp2_with fail
    refine (lckWorker_any _ _).mono ?_
    rw [HW.out]
    rintro e w1 ⟨rfl, rfl⟩
    go_wp2
    go_ret
    exact HO.out
  | true =>
    have HW := Lib.hid h1
    clear h1
    cases h2 : okN k with
    | false =>
      have HN := Lib.hid h2
      have HO := Lib.hid (HS.out (takeX_not fun e => by rw [h2] at e; cases e.2.1))
      clear h2
      go_enter Try.func26, Try.ntmps26
      go_wp2_with fail
      refine (lckWorker_any _ _).mono ?_
      rw [HW.out]
      rintro e w1 ⟨rfl, rfl⟩
      go_wp2_with fail
      refine (lckMutex_any _ _).mono ?_
      rw [HN.out]
      rintro e w1 ⟨rfl, rfl⟩
      go_wp2
      go_ret
      exact HO.out
    | true =>
      have HN := Lib.hid h2
      clear h2
      cases h3 : hold x.hs k with
      | none =>
        rw [h3] at HH
        have HE := Lib.hid (takeX_none (x := x) HW.out HN.out h3)
        have HF := Lib.hid h3
        clear h3
        go_enter Try.func26, Try.ntmps26
        go_wp2_with fail
        refine (lckWorker_any _ _).mono ?_
        rw [HW.out]
        rintro e w1 ⟨rfl, rfl⟩
        go_wp2_with fail
        refine (lckMutex_any _ _).mono ?_
        rw [HN.out]
        rintro e w1 ⟨rfl, rfl⟩
        go_wp2_with fail
        refine HH.out.mono ?_
        rintro e w1 ⟨rfl, rfl⟩
        cases hu : x.up with
        | false =>
          rw [hu] at c2
          go_upto_region 7 with (fail)
          have T2 := HT.out.rise false
          have C2 : Chg (TabM B bh bw) w (w.setCell ⟨B, 2, none⟩ (.bool false)) := Chg.refl.setCell (.inl rfl) _
          generalize w.setCell ⟨B, 2, none⟩ (.bool false) = W2 at *
          obtain ⟨W3, r3, T3, C3⟩ := T2.take hn hv hk HF.out
          obtain ⟨W4, r4, T4, C4⟩ := T3.ends hv
          have HO : Hid (TabOut w B bh bw (n + 1) (takeX x v k) (takeB x v k) (.returned (.bool true)) W4) := Lib.hid (by
            rw [HE.out.1, HE.out.2]
            refine ⟨rfl, ?_, (C2.trans C3 (fun b hb => .inl hb)).trans C4 (fun b hb => .inl hb)⟩
            rw [hu, Bool.false_and]
            exact T4)
          have e1 := T2.c0
          have e2 := T3.c1
          clear T2 C2 T3 C3 T4 C4 c0 c1 c2 f2 hn
          go_wp2
          go_ret
          exact HO.out
        | true =>
          rw [hu] at c2
          have HBL := Lib.hid HT.out.lt
          go_wp2_with fail
          refine HA.out.mono ?_
          rintro e w1 ⟨rfl, hb⟩
          have T1 := HT.out.later hb
          have C1 : Chg (TabM B bh bw) w w1 := Chg.of_below hb
          have d1 := T1.c1
          have d0 := T1.c0
          have d2 := T1.c2
          have g2 := T1.f2
          generalize hab : aboveB x.hs k v = ab at *
          have HT1 := Lib.hid T1
          have HC1 := Lib.hid C1
          clear hb T1 C1 hab
          go_upto_region 7 with (fail)
          have T2 := HT1.out.rise ab
          have C2 : Chg (TabM B bh bw) w (w1.setCell ⟨B, 2, none⟩ (.bool ab)) := HC1.out.setCell (.inl rfl) _
          generalize w1.setCell ⟨B, 2, none⟩ (.bool ab) = W2 at *
          obtain ⟨W3, r3, T3, C3⟩ := T2.take hn hv hk HF.out
          obtain ⟨W4, r4, T4, C4⟩ := T3.ends hv
          have HO : Hid (TabOut w B bh bw (n + 1) (takeX x v k) (takeB x v k) (.returned (.bool true)) W4) := Lib.hid (by
            rw [HE.out.1, HE.out.2]
            refine ⟨rfl, ?_, (C2.trans C3 (fun b hb => .inl hb)).trans C4 (fun b hb => .inl hb)⟩
            rw [hu, Bool.true_and]
            exact T4)
          have e1 := T2.c0
          have e2 := T3.c1
          clear d0 d1 d2 g2 T2 C2 T3 C3 T4 C4 c0 c1 c2 f2 hn
          go_wp2
          go_ret
          exact HO.out
      | some u =>
        rw [h3] at HH
        by_cases huv : u = v
        · subst huv
          have HO := Lib.hid (HS.out (takeX_not fun e => e.2.2 h3))
          clear h3
          go_enter Try.func26, Try.ntmps26
          go_wp2_with fail
          refine (lckWorker_any _ _).mono ?_
          rw [HW.out]
          rintro e w1 ⟨rfl, rfl⟩
          go_wp2_with fail
          refine (lckMutex_any _ _).mono ?_
          rw [HN.out]
          rintro e w1 ⟨rfl, rfl⟩
          go_wp2_with fail
          refine HH.out.mono ?_
          rintro e w1 ⟨rfl, rfl⟩
          go_wp2
          go_ret
          exact HO.out
        have HE := Lib.hid (takeX_other (x := x) HW.out HN.out h3 huv)
        clear h3
        go_enter Try.func26, Try.ntmps26
        go_wp2_with fail
        refine (lckWorker_any _ _).mono ?_
        rw [HW.out]
        rintro e w1 ⟨rfl, rfl⟩
        go_wp2_with fail
        refine (lckMutex_any _ _).mono ?_
        rw [HN.out]
        rintro e w1 ⟨rfl, rfl⟩
        go_wp2_with fail
        refine HH.out.mono ?_
        rintro e w1 ⟨rfl, rfl⟩
        cases hu : x.up with
        | false =>
          rw [hu] at c2
          go_upto_region 7 with (fail)
          have T2 := HT.out.rise false
          have C2 : Chg (TabM B bh bw) w (w.setCell ⟨B, 2, none⟩ (.bool false)) := Chg.refl.setCell (.inl rfl) _
          generalize w.setCell ⟨B, 2, none⟩ (.bool false) = W2 at *
          obtain ⟨W3, r3, T3, C3⟩ := T2.wait hn hv hk
          have HO : Hid (TabOut w B bh bw (n + 1) (takeX x v k) (takeB x v k) (.returned (.bool false)) W3) := Lib.hid (by
            rw [HE.out.1, HE.out.2]
            refine ⟨rfl, ?_, C2.trans C3 (fun b hb => .inl hb)⟩
            rw [hu, Bool.false_and]
            exact T3)
          have e1 := T2.c1
          clear T2 C2 T3 C3 c0 c1 c2 f2 hn
          go_wp2
          go_ret
          exact HO.out
        | true =>
          rw [hu] at c2
          have HBL := Lib.hid HT.out.lt
          go_wp2_with fail
          refine HA.out.mono ?_
          rintro e w1 ⟨rfl, hb⟩
          have T1 := HT.out.later hb
          have C1 : Chg (TabM B bh bw) w w1 := Chg.of_below hb
          have d1 := T1.c1
          have d0 := T1.c0
          have d2 := T1.c2
          have g2 := T1.f2
          generalize hab : aboveB x.hs k v = ab at *
          have HT1 := Lib.hid T1
          have HC1 := Lib.hid C1
          clear hb T1 C1 hab
          go_upto_region 7 with (fail)
          have T2 := HT1.out.rise ab
          have C2 : Chg (TabM B bh bw) w (w1.setCell ⟨B, 2, none⟩ (.bool ab)) := HC1.out.setCell (.inl rfl) _
          generalize w1.setCell ⟨B, 2, none⟩ (.bool ab) = W2 at *
          obtain ⟨W3, r3, T3, C3⟩ := T2.wait hn hv hk
          have HO : Hid (TabOut w B bh bw (n + 1) (takeX x v k) (takeB x v k) (.returned (.bool false)) W3) := Lib.hid (by
            rw [HE.out.1, HE.out.2]
            refine ⟨rfl, ?_, C2.trans C3 (fun b hb => .inl hb)⟩
            rw [hu, Bool.true_and]
            exact T3)
          have e1 := T2.c1
          clear d0 d1 d2 g2 T2 C2 T3 C3 c0 c1 c2 f2 hn
          go_wp2
          go_ret
          exact HO.out
theorem giveX_yes {v k : Int} (h : hold x.hs k = some v) : giveX x v k = ⟨freeL x.hs k, restL x.ws v, x.up⟩ ∧ giveB x v k = true := by
  unfold giveX giveB
  rw [if_pos h, h]
  exact ⟨rfl, by simp⟩
theorem giveX_no {v k : Int} (h : hold x.hs k ≠ some v) : giveX x v k = x ∧ giveB x v k = false := by
  unfold giveX giveB
  rw [if_neg h]
  exact ⟨rfl, by simpa using h⟩
set_option maxRecDepth 100000 in
theorem Give_any (h : Tab w B bh bw n x) (v k : Int) (hv : IsI v) (hk : IsI k) :
    Calls Try.prog 24 #[.pointer (some ⟨B, 0, none⟩), .int .i64 v, .int .i64 k] w (TabOut w B bh bw n (giveX x v k) (giveB x v k)) := by
  have HH := Lib.hid (Holder_any (.inr ⟨B, bh, bw, n, rfl, h⟩) k hk)
  have HT := Lib.hid h
  by_cases h3 : hold x.hs k = some v
  · rw [h3] at HH
    have HE := Lib.hid (giveX_yes h3)
    obtain ⟨W3, r3, T3, C3⟩ := h.free hk
    obtain ⟨W4, r4, T4, C4⟩ := T3.ends hv
    have HO : Hid (TabOut w B bh bw n (giveX x v k) (giveB x v k) (.returned (.bool true)) W4) := Lib.hid (by
      rw [HE.out.1, HE.out.2]
      exact ⟨rfl, T4, C3.trans C4 (fun b hb => .inl hb)⟩)
    have c0 := h.c0
    have c1 := T3.c1
    clear h h3 T3 C3 T4 C4
    go_enter Try.func24, Try.ntmps24
    go_wp2_with fail
    refine HH.out.mono ?_
    rintro e w1 ⟨rfl, rfl⟩
    go_wp2
    go_ret
    exact HO.out
  · have HE := Lib.hid (giveX_no h3)
    have HO : Hid (TabOut w B bh bw n (giveX x v k) (giveB x v k) (.returned (.bool false)) w) := Lib.hid (by
      rw [HE.out.1, HE.out.2]
      exact ⟨rfl, h, Chg.refl⟩)
    clear h
    cases h4 : hold x.hs k with
    | none =>
      rw [h4] at HH
      clear h3
      go_enter Try.func24, Try.ntmps24
      go_wp2_with fail
      refine HH.out.mono ?_
      rintro e w1 ⟨rfl, rfl⟩
      go_wp2
      go_ret
      exact HO.out
    | some u =>
      rw [h4] at HH h3
      have hne : ¬ u = v := fun e => h3 (by rw [e])
      have hne2 : (u != v) = true := by simpa using hne
      clear h3
      go_enter Try.func24, Try.ntmps24
      go_wp2_with fail
      refine HH.out.mono ?_
      rintro e w1 ⟨rfl, rfl⟩
      go_wp2
      go_ret
      exact HO.out
end

theorem LckNew_any (w : World) : Calls Try.prog 22 #[] w fun e w' => ∃ B bh bw, e = .returned (.pointer (some ⟨B, 0, none⟩)) ∧ Tab w' B bh bw 0 newL ∧ Below w.heap.size w w' ∧ ∀ b, TabM B bh bw b → w.heap.size ≤ b := by
  have hmm := @run_makeMap Try.prog
  go_enter Try.func22, Try.ntmps22
  go_wp2
  go_ret
  generalize hW : (w.alloc (.map #[] 0)).alloc (.map #[] 0) = W at *
  have hs : W.heap.size = w.heap.size + 2 := by rw [← hW]; simp
  have m1 : MapO W w.heap.size 0 (fun _ => none) := by
    rw [← hW]
    exact (MapO.made w).same (Below.heap_alloc _ _ _ (by simp))
  have m2 : MapO W (w.heap.size + 1) 0 (fun _ => none) := by
    rw [← hW]
    have := MapO.made (w.alloc (.map #[] 0))
    rwa [World.size_alloc] at this
  have hh : ∀ o t, (W.alloc (.cells o t)).heap[w.heap.size + 2]? = some (.cells o t (0, 0)) := fun o t => by
    rw [← hs]
    exact heap_alloc_last W _
  have hc : ∀ (o : Array Value) t j, (W.alloc (.cells o t)).cell? ⟨w.heap.size + 2, j, none⟩ = o[j]? := fun o t j => cell_of_row _ _ j _ t (0, 0) (hh o t)
  have hf : ∀ (o : Array Value) t j, (W.alloc (.cells o t)).frozen? ⟨w.heap.size + 2, j, none⟩ = false := fun o t j => by simp only [World.frozen?]; rw [hh]; simp
  have hb : ∀ o, Below w.heap.size w (W.alloc o) := fun o => by
    rw [← hW]
    exact (((Below.refl _ w).alloc (Nat.le_refl _) _).alloc (by simp) _).alloc (by simp; omega) _
  refine ⟨w.heap.size + 2, w.heap.size, w.heap.size + 1, rfl, ⟨(hc _ _ _).trans rfl, (hc _ _ _).trans rfl, (hc _ _ _).trans rfl, hf _ _ _, m1.same (Below.heap_alloc _ _ _ (by omega)), m2.same (Below.heap_alloc _ _ _ (by omega)), by omega⟩, hb _, fun b hb => ?_⟩
  rcases hb with rfl | rfl | rfl <;> omega

end Go.Proofs.Ytdgmcaehadigaaa
