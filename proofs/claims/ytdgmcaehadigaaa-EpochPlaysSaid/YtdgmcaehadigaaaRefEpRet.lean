/- The document's epoch clock: Retire. -/
import Derived.Test.YtdgmcaehadigaaaRefEpPin2
import Derived.Test.YtdgmcaehadigaaaEpRet
import Derived.BigRegion
import Derived.Deep.RegionLaw
import Derived.Deep.RegionHeld3
import Derived.Deep.DeepCutAuto
import Derived.Deep.CutBlock
import Derived.Handy
import Derived.Test.YtdgmcaehadigaaaBx
namespace Go.Proofs.Ytdgmcaehadigaaa
open Go.RowKit

theorem cR_snoc (L : List (Int × Nat)) (p : Int × Nat) : cellsR (L ++ [p]) = cellsR L ++ [.int .i64 p.1, .int .i64 (p.2 : Int)] := cellsR_snoc L p
set_option maxRecDepth 100000 in
/-- A list of refs is copied behind an empty one of the call's own. -/
theorem app1 {X : World} {b N l c3 : Nat} {A3 : Option Addr} {lb : List (Int × Nat)} (hb : X.heap[b]? = some (.cells #[] 154 (0, 0))) (hA : RdR X N A3 lb) (hl : lb.length = l) (hf : l ≤ 100000) :
    ∃ g c X', (∀ ty, (Builtin.append_ #[67, 67] ty #[.slice (some ⟨b, 0, none⟩) 0 0, .slice A3 l c3]).run Try.prog X = .ok (.slice (some ⟨g, 0, none⟩) l c) X') ∧ X'.ownsRow b 154 2 (.slice (some ⟨g, 0, none⟩) l c) l (cellsR lb) ∧ X.grownBy X' (some b) := by
  obtain ⟨i0, hi0, hz0, hz1, hz2⟩ := info_parts info_ref
  have hblt : b < X.heap.size := (Array.getElem?_eq_some_iff.1 hb).1
  have hown : X.ownsRow b 154 2 (.slice (some ⟨b, 0, none⟩) 0 0) 0 [] := ⟨by simp, .inr ⟨b, 0, #[], rfl, Nat.le_refl _, hb, Nat.le_refl _, by unfold maxLen; omega, by simp, by simp⟩⟩
  cases A3 with
  | none =>
    have hn : lb = [] := by
      cases lb with
      | nil => rfl
      | cons p r => obtain ⟨_, _, he, _⟩ := hA 0 p rfl; cases he
    subst hn
    have hl0 : l = 0 := by simpa using hl.symm
    subst hl0
    refine ⟨b, 0, X, fun ty => ?_, hown, ⟨rfl, rfl, rfl, Nat.le_refl _, fun _ _ _ => rfl⟩⟩
    simp [Builtin.append_, run_underlying Try.underlying67, sizeOf, typeInfo, hi0, Builtin.lenOf, Builtin.firstCells, storeCells]
  | some ad =>
    have hnews : ∀ j u, (cellsR lb)[j]? = some u → X.cell? (ad.add j) = some u := fun j u hj => by
      have hj2 := (List.getElem?_eq_some_iff.1 hj).1
      rw [cellsR_len] at hj2
      have hk : j / 2 < lb.length := by omega
      obtain ⟨g, o, e, _, q1, q2⟩ := hA (j / 2) _ (List.getElem?_eq_getElem hk)
      obtain ⟨p1, p2⟩ := cellsR_at lb (j / 2) _ (List.getElem?_eq_getElem hk)
      injection e with e
      subst e
      rw [show Addr.add ⟨g, o, none⟩ j = ⟨g, o + j, none⟩ from by simp [Addr.add]]
      rcases (show j = j / 2 * 2 ∨ j = j / 2 * 2 + 1 by omega) with e | e
      · rw [e] at hj ⊢
        rw [p1] at hj
        rw [← hj]
        exact q1
      · rw [e] at hj ⊢
        rw [p2] at hj
        rw [← hj, ← Nat.add_assoc]
        exact q2
    have key : ∀ ty, ∃ v' w', (Builtin.append_ #[67, 67] ty #[.slice (some ⟨b, 0, none⟩) 0 0, .slice (some ad) l c3]).run Try.prog X = .ok v' w' ∧ w'.ownsRow b 154 2 v' (0 + l) ([] ++ cellsR lb) ∧ X.grownBy w' (Value.slice (some ⟨b, 0, none⟩) 0 0).ownBlock ∧
        (v' = .slice none 0 0 ↔ Value.slice (some ⟨b, 0, none⟩) 0 0 = .slice none 0 0 ∧ l = 0) ∧ _ := fun ty =>
      run_append_own_at (P := Try.prog) X b 67 ty 154 i0 _ 2 16 Try.underlying67 hi0 hz0 hz1 hz2 rfl (by decide) _ 0 [] hown ad l c3 (cellsR lb) (by rw [cellsR_len, hl]) hnews (cellsR_one _) (by unfold maxLen; omega) (by omega) (Nat.le_of_lt hblt)
    obtain ⟨v', w', hr, h2, h3, h4, _⟩ := key 0
    rw [Nat.zero_add, List.nil_append] at h2
    rcases h2.2 with ⟨hv, _⟩ | ⟨g, cap, cur, rfl, _⟩
    · exact absurd (h4.1 hv).1 (by intro e; cases e)
    · exact ⟨g, cap, w', fun ty => hr, h2, h3⟩
/-- .. and one more. -/
theorem app2 {X : World} {nb g l c base : Nat} {lb : List (Int × Nat)} {s : Int} {e : Nat} (hrow : X.ownsRow base 154 2 (.slice (some ⟨g, 0, none⟩) l c) l (cellsR lb)) (hn : X.heap[nb]? = some (.cells #[.int .i64 s, .int .i64 (e : Int)] 154 (0, 0))) (hf : l ≤ 100000) (hbase : base ≤ X.heap.size) :
    ∃ g2 c2 X', (∀ ty, (Builtin.append_ #[67, 67] ty #[.slice (some ⟨g, 0, none⟩) l c, .slice (some ⟨nb, 0, none⟩) 1 1]).run Try.prog X = .ok (.slice (some ⟨g2, 0, none⟩) (l + 1) c2) X') ∧ X'.ownsRow base 154 2 (.slice (some ⟨g2, 0, none⟩) (l + 1) c2) (l + 1) (cellsR (lb ++ [(s, e)])) ∧ X.grownBy X' (some g) := by
  obtain ⟨i0, hi0, hz0, hz1, hz2⟩ := info_parts info_ref
  obtain ⟨g2, c2, X', hr, h2, h3, _, _⟩ := run_append_lies (P := Try.prog) X 67 0 base 154 i0 _ 2 16 Try.underlying67 hi0 hz0 hz1 hz2 rfl (by decide) _ l (cellsR lb) hrow ⟨nb, 0, none⟩ 1 1 [.int .i64 s, .int .i64 (e : Int)] rfl (World.news_of_block (cs := #[.int .i64 s, .int .i64 (e : Int)]) (t := 154) (fr := (0, 0)) hn) (by simp [Value.oneCell']) (by decide) (by unfold maxLen; omega) (by omega) hbase X.heap.size rfl
  exact ⟨g2, c2, X', fun ty => hr, by rw [cR_snoc]; exact h2, h3⟩
/-- An append whose run is known, at a step of a region that draws its order. -/
theorem step_append_run {P : Program} {ops : Array Oper} {o : Oper} {a : Act} {K : Act → World → Prop} {Q : Exit → Act → World → Prop} {E : Prop} (w : World) (hgd : o.guard = none) (s x : Operand) (t : TypeId)
    (ho : o.op = .call { callee := .builtin .append, args := #[s, x], argTypes := #[t, t] }) (v u R : Value) (W' : World) (hr : ∀ ty, (Builtin.append_ #[t, t] ty #[v, u]).run P w = .ok R W') (hs : a.eval s = v) (hx : a.eval x = u)
    (h : K (a.put o.dst R) W') : if Region.wanted o (yielded ops a.tmps) = true then Oper.wp P o a w K Q else E := by
  have hw : Region.wanted o (yielded ops a.tmps) = true := by simp [Region.wanted, hgd]
  rw [if_pos hw]
  unfold Oper.wp execOp
  simp only [ho, resolve, invoke, builtin, Sem.run_bind, Sem.run_pure, Result.andThen_ok, List.map_toArray, List.map_cons, List.map_nil, hs, hx, hr]
  exact h
theorem world_is {P : Program} {ops : Array Oper} {o : Oper} {a : Act} {K : Act → World → Prop} {Q : Exit → Act → World → Prop} {E : Prop} (w : World) (h : if Region.wanted o (yielded ops a.tmps) = true then Oper.wp P o a w K Q else E) : if Region.wanted o (yielded ops a.tmps) = true then Oper.wp P o a w K Q else E := h
/-- None of the first k is the slot. -/
def NoSlot (L : List (Int × Nat)) (s : Int) (k : Nat) : Prop := ∀ j p, j < k → L[j]? = some p → p.1 ≠ s
theorem isRet_no {x : EX} {s : Int} (h : NoSlot x.lb s x.lb.length) : isRet x s = false := by
  unfold isRet
  rw [List.any_eq_false]
  intro p hp
  obtain ⟨j, hj, e⟩ := List.mem_iff_getElem.1 hp
  have := h j p hj (by rw [List.getElem?_eq_getElem hj, e])
  simpa using this
theorem isRet_yes {x : EX} {s : Int} {k : Nat} {p : Int × Nat} (hk : x.lb[k]? = some p) (hp : p.1 = s) : isRet x s = true := by
  unfold isRet
  rw [List.any_eq_true]
  exact ⟨p, List.mem_of_getElem? hk, by simpa using hp⟩
/-- What a ref that is retired leaves: the old row, and it. -/
def RetOut (w : World) (Z : Nat → Prop) (V' : Value) (b : Bool) (y : EX) (r : Ending) (w' : World) : Prop := r = .returned (.tuple #[V', .bool b]) ∧ RC w' (ZZ Z w) V' y ∧ Below w.heap.size w w'
theorem RdR.set {W : World} {g o : Nat} {L : List (Int × Nat)} (h : RdR W W.heap.size (some ⟨g, o, none⟩) L) (p : Addr) (v : Value) (hp : p.block ≠ g) : RdR (W.setCell p v) (W.setCell p v).heap.size (some ⟨g, o, none⟩) L := fun j q hq => by
  obtain ⟨b, o', e, h1, h2, h3⟩ := h j q hq
  injection e with e
  injection e with e1 e2
  subst e1 e2
  exact ⟨g, o, rfl, by rw [World.size_setCell]; exact h1, by rw [World.cell?_setCell_far _ _ _ _ hp]; exact h2, by rw [World.cell?_setCell_far _ _ _ _ hp]; exact h3⟩
/-- Behind the store of the new list: the box, the result's box, what lies below, the list. -/
def RetEnd (w W : World) (e : Int) (P1 P2 : Value) (g l k : Nat) (lk : Int) (L : List (Int × Nat)) (n : Nat) : Prop :=
  Five W w.heap.size (.int .i64 e) P1 P2 (.slice (some ⟨g, 0, none⟩) l k) (.int .i64 lk) ∧ Five W (w.heap.size + 1) (.int .i64 0) (.slice none 0 0) (.slice none 0 0) (.slice none 0 0) (.int .i64 0) ∧ Below w.heap.size w W ∧ RdR W W.heap.size (some ⟨g, 0, none⟩) L ∧ n ≤ g
theorem RetEnd.of {w wr V : World} {e : Int} {P1 P2 P3 : Value} {g k : Nat} {lk : Int} {L : List (Int × Nat)} (l : Nat)
    (h1 : Five wr w.heap.size (.int .i64 e) P1 P2 P3 (.int .i64 lk)) (h2 : Five wr (w.heap.size + 1) (.int .i64 0) (.slice none 0 0) (.slice none 0 0) (.slice none 0 0) (.int .i64 0)) (hb : Below w.heap.size w wr)
    (hf : Below wr.heap.size wr V ∧ RdR V V.heap.size (some ⟨g, 0, none⟩) L ∧ wr.heap.size ≤ g) : RetEnd w (V.setCell ⟨w.heap.size, 3, none⟩ (.slice (some ⟨g, 0, none⟩) l k)) e P1 P2 g l k lk L wr.heap.size := by
  have hlt := h1.lt
  refine ⟨((h1.below hf.1).one _).2.2, (h2.below hf.1).other (a := ⟨w.heap.size, 3, none⟩) (by simp) _, (Below.next hb hf.1).setCell (p := ⟨w.heap.size, 3, none⟩) (Nat.le_refl _) _, hf.2.1.set _ _ ?_, hf.2.2⟩
  show w.heap.size ≠ g
  have := hf.2.2
  omega
theorem exit_is {f : Exit → Act → World → Prop} {x : Exit} {a : Act} (W : World) (h : f x a W) : f x a W := h
theorem RetEnd.fin {w X : World} {e : Int} {P1 P2 : Value} {g l k : Nat} {lk : Int} {L : List (Int × Nat)} {n : Nat} {b : Bool} {y : EX} {Z : Nat → Prop} (h : RetEnd w X e P1 P2 g l k lk L n) (hn : w.heap.size + 2 ≤ n)
    (hfin : ∀ W A c, Below w.heap.size w W → RdR W W.heap.size A L → (∀ g o, A = some ⟨g, o, none⟩ → w.heap.size ≤ g) → RetOut w Z (.agg #[.int .i64 e, P1, P2, .slice A l c, .int .i64 lk]) b y (.returned (.tuple #[.agg #[.int .i64 e, P1, P2, .slice A l c, .int .i64 lk], .bool true])) W) :
    Five (((((X.setCell ⟨w.heap.size + 1, 0, none⟩ (.int .i64 e)).setCell ⟨w.heap.size + 1, 1, none⟩ P1).setCell ⟨w.heap.size + 1, 2, none⟩ P2).setCell ⟨w.heap.size + 1, 3, none⟩ (.slice (some ⟨g, 0, none⟩) l k)).setCell ⟨w.heap.size + 1, 4, none⟩ (.int .i64 lk)) (w.heap.size + 1) (.int .i64 e) P1 P2 (.slice (some ⟨g, 0, none⟩) l k) (.int .i64 lk) ∧
    RetOut w Z (.agg #[.int .i64 e, P1, P2, .slice (some ⟨g, 0, none⟩) l k, .int .i64 lk]) b y (.returned (.tuple #[.agg #[.int .i64 e, P1, P2, .slice (some ⟨g, 0, none⟩) l k, .int .i64 lk], .bool true])) (((((X.setCell ⟨w.heap.size + 1, 0, none⟩ (.int .i64 e)).setCell ⟨w.heap.size + 1, 1, none⟩ P1).setCell ⟨w.heap.size + 1, 2, none⟩ P2).setCell ⟨w.heap.size + 1, 3, none⟩ (.slice (some ⟨g, 0, none⟩) l k)).setCell ⟨w.heap.size + 1, 4, none⟩ (.int .i64 lk)) := by
  obtain ⟨_, h2, h3, h4, h5⟩ := h
  have hg : w.heap.size + 1 ≠ g := by omega
  exact ⟨h2.put _ _ _ _ _, hfin _ _ _ (below_put h3 (Nat.le_succ _) _ _ _ _ _) (((((h4.set ⟨w.heap.size + 1, 0, none⟩ _ hg).set ⟨w.heap.size + 1, 1, none⟩ _ hg).set ⟨w.heap.size + 1, 2, none⟩ _ hg).set ⟨w.heap.size + 1, 3, none⟩ _ hg).set ⟨w.heap.size + 1, 4, none⟩ _ hg) (fun g' o e => by injection e with e; injection e with e; omega)⟩
set_option maxRecDepth 100000 in
set_option maxHeartbeats 8000000 in
theorem RRet_any {w : World} {Z : Nat → Prop} {V : Value} {x : EX} (h : RC w Z V x) (few : x.lb.length ≤ 100000) (s : Int) :
    Calls Try.prog 45 #[V, .int .i64 s] w fun r w' => ∃ V', RetOut w Z V' (!isRet x s) (retX x s) r w' := by
  obtain ⟨A1, c1, A2, c2, A3, c3, rfl, r1, r2, r3, t1, t2, t3⟩ := h
  have HO : Hid (∀ W A c, Below w.heap.size w W → RdR W W.heap.size A (x.lb ++ [(s, x.e)]) → (∀ g o, A = some ⟨g, o, none⟩ → w.heap.size ≤ g) → RC W (ZZ Z w) (cV x.e A1 x.ld.length c1 A2 x.rc.length c2 A (x.lb.length + 1) c x.lk) (retE x s)) := Lib.hid fun W A c hb hr hz =>
    ⟨A1, c1, A2, c2, A, c, by show _ = cV _ _ _ _ _ _ _ _ (x.lb ++ [_]).length _ _; rw [List.length_append]; rfl, rd_later r1 hb, rd_later r2 hb, hr, t1.old, t2.old, .new hz⟩
  have HN : Hid (∀ W, Below w.heap.size w W → RC W (ZZ Z w) (cV x.e A1 x.ld.length c1 A2 x.rc.length c2 A3 x.lb.length c3 x.lk) x) := Lib.hid fun W hb => ⟨A1, c1, A2, c2, A3, c3, rfl, rd_later r1 hb, rd_later r2 hb, (r3.below hb).more hb.size, t1.old, t2.old, t3.old⟩
  have HL := Lib.hid r3
  have HX0 : Hid (∀ b, isRet x s = b → (!isRet x s) = !b ∧ retX x s = if b = true then x else retE x s) := Lib.hid fun b hb => ⟨by rw [hb], by unfold retX; rw [hb]⟩
  have HY := Lib.hid (fun k p h1 h2 => isRet_yes (x := x) (s := s) (k := k) (p := p) h1 h2)
  have HNO := Lib.hid (fun h => isRet_no (x := x) (s := s) h)
  clear r1 r2 r3 t1 t2 t3
  unfold cV at *
  generalize hee : x.e = e at *
  generalize (x.lk : Int) = lk at *
  generalize x.ld.length = l1 at *
  generalize x.rc.length = l2 at *
  obtain ⟨lb, hlb⟩ : ∃ lb, lb = x.lb := ⟨_, rfl⟩
  rw [← hlb] at HO HN HL HY HNO few ⊢
  have HLB := Lib.hid hlb
  clear hlb hee
  obtain ⟨b1, b2, b3⟩ := Five.two w (.int .i64 (e : Int)) (.slice A1 l1 c1) (.slice A2 l2 c2) (.slice A3 lb.length c3) (.int .i64 lk) (.int .i64 0) (.slice none 0 0) (.slice none 0 0) (.slice none 0 0) (.int .i64 0) 69
  have HB1 := Lib.hid b1
  have HB2 := Lib.hid b2
  have HB3 := Lib.hid b3
  clear b1 b2 b3
  go_enter Try.func45, Try.ntmps45
  go_wp2
  obtain ⟨W0, hW0⟩ : ∃ W0, W0 = (w.alloc (.cells #[.int .i64 (e : Int), .slice A1 l1 c1, .slice A2 l2 c2, .slice A3 lb.length c3, .int .i64 lk] 69)).alloc (.cells #[.int .i64 0, .slice none 0 0, .slice none 0 0, .slice none 0 0, .int .i64 0] 69) := ⟨_, rfl⟩
  rw [← hW0] at HB1 HB2 HB3 ⊢
  clear hW0
  go_loopw [11] (fun i wr => ∃ k : Nat, k ≤ lb.length ∧ i = .int .i64 (k : Int) ∧ Below W0.heap.size W0 wr ∧ Hid (NoSlot lb s k)) (fun i _ => lb.length - (intOf i).toNat)
  case atStart => exact ⟨0, Nat.zero_le _, rfl, Below.refl _ _, fun j p hj _ => absurd hj (Nat.not_lt_zero j)⟩
  case round =>
    obtain ⟨k, hk, rfl, hbel, HK⟩ := hrel
    by_cases hlt : k < lb.length
    · obtain ⟨b, off, rfl, hb, q1, q2⟩ := (HL.out.below (Below.next HB3.out hbel)) k _ (List.getElem?_eq_getElem hlt)
      have HG := Lib.hid (List.getElem?_eq_getElem hlt)
      generalize lb[k] = pp at *
      obtain ⟨sl, gn⟩ := pp
      simp only at q1 q2
      have hkl : (k : Int) < (lb.length : Int) := by omega
      have hk0 : (0 : Int) ≤ (k : Int) := by omega
      have HBX := Lib.hid (hbel.alloc hbel.size (.cells #[.int .i64 sl, .int .i64 (gn : Int)] 154))
      have HQ := Lib.hid ((Bx.new wr [.int .i64 sl, .int .i64 (gn : Int)] 154).c 0 _ rfl)
      clear hbel
      go_upto_region 4 with (fail)
      obtain ⟨X, hX⟩ : ∃ X, X = wr.alloc (.cells #[.int .i64 sl, .int .i64 (gn : Int)] 154) := ⟨_, rfl⟩
      have HQ2 : Hid (X.cell? ⟨wr.heap.size, 0, none⟩ = some (.int .i64 sl)) := Lib.hid (by rw [hX]; exact HQ.out)
      rw [← hX] at HBX ⊢
      clear hX HQ q1 q2
      generalize wr.heap.size = D at *
      have hq := HQ2.out
      by_cases hs : sl = s
      · have HR := Lib.hid (HX0.out true (HY.out k _ HG.out hs))
        have hsb : (sl == s) = true := by rw [beq_iff_eq]; exact hs
        obtain ⟨_, x0, x1, x2, x3, x4, _, _, _, _, _⟩ := HB1.out.below HBX.out
        obtain ⟨hlt2, u0, u1, u2, u3, u4, z0, z1, z2, z3, z4⟩ := HB2.out.below HBX.out
        have HP := Lib.hid ((HB2.out.below HBX.out).put (.int .i64 (e : Int)) (.slice A1 l1 c1) (.slice A2 l2 c2) (.slice (some ⟨b, off, none⟩) lb.length c3) (.int .i64 lk))
        have HBF := Lib.hid (below_put (Below.next HB3.out HBX.out) (Nat.le_succ w.heap.size) (.int .i64 (e : Int)) (.slice A1 l1 c1) (.slice A2 l2 c2) (.slice (some ⟨b, off, none⟩) lb.length c3) (.int .i64 lk))
        have HFI : Hid (∀ W, Below w.heap.size w W → RetOut w Z (.agg #[.int .i64 (e : Int), .slice A1 l1 c1, .slice A2 l2 c2, .slice (some ⟨b, off, none⟩) lb.length c3, .int .i64 lk]) (!isRet x s) (retX x s) (.returned (.tuple #[.agg #[.int .i64 (e : Int), .slice A1 l1 c1, .slice A2 l2 c2, .slice (some ⟨b, off, none⟩) lb.length c3, .int .i64 lk], .bool false])) W) := Lib.hid fun W hW => ⟨by rw [HR.out.1]; rfl, by rw [HR.out.2, if_pos rfl]; exact HN.out W hW, hW⟩
        clear HB1 HB2 HB3 HBX hs HR HN HO HY HNO HL HG HK HX0
        go_wp2
        obtain ⟨_, q0, q1, q2, q3, q4, _, _, _, _, _⟩ := HP.out
        exact bodyPost_ret (v := .tuple #[.agg #[.int .i64 (e : Int), .slice A1 l1 c1, .slice A2 l2 c2, .slice (some ⟨b, off, none⟩) lb.length c3, .int .i64 lk], .bool false]) (by simp [results, Try.results45, go_sem, q0, q1, q2, q3, q4]) rfl ⟨_, HFI.out _ HBF.out⟩
      · have HK2 : Hid (NoSlot lb s (k + 1)) := Lib.hid fun j p hj hp => by
          rcases Nat.lt_succ_iff_lt_or_eq.1 hj with h1 | rfl
          · exact HK.out j p h1 hp
          · rw [HG.out] at hp
            injection hp with hp
            rw [← hp]
            exact hs
        have hsb : (sl == s) = false := by rw [beq_eq_false_iff_ne]; exact hs
        clear hs
        go_wp2
        go_roundw
        case rel => exact ⟨k + 1, by omega, by go_num, HBX.out, HK2.out⟩
        case measure => simp [intOf]; omega
    · obtain rfl : k = lb.length := by omega
      have HR := Lib.hid (HX0.out false (HNO.out HK.out))
      have HBX := Lib.hid hbel
      have H1 := Lib.hid (HB1.out.below hbel)
      have H2 := Lib.hid (HB2.out.below hbel)
      have HLW := Lib.hid ((HL.out.below (Below.next HB3.out hbel)).more (Below.next HB3.out hbel).size)
      have HBW := Lib.hid (Below.next HB3.out hbel)
      clear HB1 HB2 HB3 hbel HL HN HY HNO HK HX0
      go_upto_region 7 with (fail)
      have few2 := few
      have a1 := app1 (X := (wr.alloc (.cells #[] 154)).drew) (b := wr.heap.size) (A3 := A3) (c3 := c3) (heap_alloc_last wr _) (HLW.out.below (below_new _ _).drew) rfl few
      have bA : Below wr.heap.size wr ((wr.alloc (.cells #[] 154)).drew) := (below_new _ _).drew
      obtain ⟨g1, k1, V1, hr1, row1, gr1⟩ := a1
      have bV1 : Below wr.heap.size wr V1 := bA.grown gr1 (by simp) (fun g hg => by injection hg with hg; omega)
      obtain ⟨g2, k2, V2, hr2, row2, gr2⟩ := app2 (X := V1.alloc (.cells #[.int .i64 s, .int .i64 (e : Int)] 154)) (nb := V1.heap.size) (lb := lb) (s := s) (e := e) (row1.alloc _) (heap_alloc_last V1 _) few (by have := bV1.size; simp; omega)
      have bV2 : Below wr.heap.size wr V2 := (bV1.alloc bV1.size _).grown gr2 (by have := bV1.size; simp; omega) (fun g hg => by injection hg with hg; have := (row1.lt g1 rfl).1; omega)
      have HF1 : Hid (Below wr.heap.size wr V2 ∧ RdR V2 V2.heap.size (some ⟨g2, 0, none⟩) (lb ++ [(s, e)]) ∧ wr.heap.size ≤ g2) := Lib.hid ⟨bV2, RdR.of_own row2 (by simp), (row2.lt g2 rfl).1⟩
      obtain ⟨g3, k3, V3, hr3, row3, gr3⟩ := app1 (X := ((wr.alloc (.cells #[] 154)).alloc (.cells #[.int .i64 s, .int .i64 (e : Int)] 154)).drew) (b := wr.heap.size) (A3 := A3) (c3 := c3) ((Below.heap_alloc _ _ _ (by simp)).trans (heap_alloc_last wr _)) (HLW.out.below (below_one (below_new _ _) _).drew) rfl few
      have bB : Below wr.heap.size wr (((wr.alloc (.cells #[] 154)).alloc (.cells #[.int .i64 s, .int .i64 (e : Int)] 154)).drew) := (below_one (below_new _ _) _).drew
      have bV3 : Below wr.heap.size wr V3 := bB.grown gr3 (by simp; omega) (fun g hg => by injection hg with hg; omega)
      obtain ⟨g4, k4, V4, hr4, row4, gr4⟩ := app2 (X := V3) (nb := wr.heap.size + 1) (lb := lb) (s := s) (e := e) row3 ((gr3.block (wr.heap.size + 1) (by simp) (by simp)).trans (by have := heap_alloc_last (wr.alloc (.cells #[] 154)) (.cells #[.int .i64 s, .int .i64 (e : Int)] 154); rw [World.size_alloc] at this; exact this)) few bV3.size
      have bV4 : Below wr.heap.size wr V4 := bV3.grown gr4 bV3.size (fun g hg => by injection hg with hg; have := (row3.lt g3 rfl).1; omega)
      have HF2 : Hid (Below wr.heap.size wr V4 ∧ RdR V4 V4.heap.size (some ⟨g4, 0, none⟩) (lb ++ [(s, e)]) ∧ wr.heap.size ≤ g4) := Lib.hid ⟨bV4, RdR.of_own row4 (by simp), (row4.lt g4 rfl).1⟩
      obtain ⟨g5, k5, V5, hr5, row5, gr5⟩ := app1 (X := ((wr.alloc (.cells #[.int .i64 s, .int .i64 (e : Int)] 154)).alloc (.cells #[] 154)).drew) (b := wr.heap.size + 1) (A3 := A3) (c3 := c3) (by have := heap_alloc_last (wr.alloc (.cells #[.int .i64 s, .int .i64 (e : Int)] 154)) (.cells #[] 154); rw [World.size_alloc] at this; exact this) (HLW.out.below (below_one (below_new _ _) _).drew) rfl few
      have bC : Below wr.heap.size wr (((wr.alloc (.cells #[.int .i64 s, .int .i64 (e : Int)] 154)).alloc (.cells #[] 154)).drew) := (below_one (below_new _ _) _).drew
      have bV5 : Below wr.heap.size wr V5 := bC.grown gr5 (by simp; omega) (fun g hg => by injection hg with hg; omega)
      obtain ⟨g6, k6, V6, hr6, row6, gr6⟩ := app2 (X := V5) (nb := wr.heap.size) (lb := lb) (s := s) (e := e) row5 ((gr5.block wr.heap.size (by simp; omega) (by simp)).trans ((Below.heap_alloc _ _ _ (by simp)).trans (heap_alloc_last wr _))) few (by have := gr5.size; simp at this; omega)
      have bV6 : Below wr.heap.size wr V6 := bV5.grown gr6 bV5.size (fun g hg => by injection hg with hg; have := (row5.lt g5 rfl).1; omega)
      have HF3 : Hid (Below wr.heap.size wr V6 ∧ RdR V6 V6.heap.size (some ⟨g6, 0, none⟩) (lb ++ [(s, e)]) ∧ wr.heap.size ≤ g6) := Lib.hid ⟨bV6, RdR.of_own row6 (by simp), by have := (row6.lt g6 rfl).1; omega⟩
      have HFIN : Hid (∀ W A c, Below w.heap.size w W → RdR W W.heap.size A (lb ++ [(s, e)]) → (∀ g o, A = some ⟨g, o, none⟩ → w.heap.size ≤ g) → RetOut w Z (.agg #[.int .i64 (e : Int), .slice A1 l1 c1, .slice A2 l2 c2, .slice A (lb.length + 1) c, .int .i64 lk]) (!isRet x s) (retX x s) (.returned (.tuple #[.agg #[.int .i64 (e : Int), .slice A1 l1 c1, .slice A2 l2 c2, .slice A (lb.length + 1) c, .int .i64 lk], .bool true])) W) := Lib.hid fun W A c hW hR hZ => ⟨by rw [HR.out.1]; rfl, by rw [HR.out.2, if_neg (by decide)]; exact HO.out W A c hW hR hZ, hW⟩
      obtain ⟨_, x0, _, _, x3, _, y0, _, _, y3, _⟩ := H1.out
      have e2 := (H1.out.below bV2).f3
      have e4 := (H1.out.below bV4).f3
      have e6 := (H1.out.below bV6).f3
      have i2 := (H1.out.below bV2).c3
      have i4 := (H1.out.below bV4).c3
      have i6 := (H1.out.below bV6).c3
      have HE2 := Lib.hid (RetEnd.of (k := k2) (lb.length + 1) H1.out H2.out HBW.out HF1.out)
      have HE4 := Lib.hid (RetEnd.of (k := k4) (lb.length + 1) H1.out H2.out HBW.out HF2.out)
      have HE6 := Lib.hid (RetEnd.of (k := k6) (lb.length + 1) H1.out H2.out HBW.out HF3.out)
      have d10 := (H1.out.below bV1).c0
      have HLT := Lib.hid H2.out.lt
      clear row1 row2 row3 row4 row5 row6 gr1 gr2 gr3 gr4 gr5 gr6 bA bB bC bV1 bV2 bV3 bV4 bV5 bV6 HR HO few2
      have R1 := Lib.hid hr1
      have R2 := Lib.hid hr2
      have R3 := Lib.hid hr3
      have R4 := Lib.hid hr4
      have R5 := Lib.hid hr5
      have R6 := Lib.hid hr6
      clear hr1 hr2 hr3 hr4 hr5 hr6
      go_region_law (first | ((with_reducible refine world_is ((wr.alloc (.cells #[] 154)).drew) ?_); refine step_append_run _ (by rfl) _ _ _ (by rfl) _ _ _ _ R1.out (by rfl) (by rfl) ?_) | ((with_reducible refine world_is (V1.alloc (.cells #[.int .i64 s, .int .i64 (e : Int)] 154)) ?_); refine step_append_run _ (by rfl) _ _ _ (by rfl) _ _ _ _ R2.out (by rfl) (by rfl) ?_) | ((with_reducible refine world_is (((wr.alloc (.cells #[] 154)).alloc (.cells #[.int .i64 s, .int .i64 (e : Int)] 154)).drew) ?_); refine step_append_run _ (by rfl) _ _ _ (by rfl) _ _ _ _ R3.out (by rfl) (by rfl) ?_) | ((with_reducible refine world_is (V3) ?_); refine step_append_run _ (by rfl) _ _ _ (by rfl) _ _ _ _ R4.out (by rfl) (by rfl) ?_) | ((with_reducible refine world_is (((wr.alloc (.cells #[.int .i64 s, .int .i64 (e : Int)] 154)).alloc (.cells #[] 154)).drew) ?_); refine step_append_run _ (by rfl) _ _ _ (by rfl) _ _ _ _ R5.out (by rfl) (by rfl) ?_) | ((with_reducible refine world_is (V5) ?_); refine step_append_run _ (by rfl) _ _ _ (by rfl) _ _ _ _ R6.out (by rfl) (by rfl) ?_))
      all_goals
        first
        | (with_reducible refine exit_is (V2.setCell ⟨w.heap.size, 3, none⟩ (.slice (some ⟨g2, 0, none⟩) (lb.length + 1) k2)) ?_)
          have E := HE2.out
          have HF := Lib.hid (E.fin HLT.out HFIN.out)
          generalize V2.setCell ⟨w.heap.size, 3, none⟩ (.slice (some ⟨g2, 0, none⟩) (lb.length + 1) k2) = X at E HF ⊢
          obtain ⟨⟨_, x0, x1, x2, x3, x4, _, _, _, _, _⟩, ⟨_, u0, u1, u2, u3, u4, z0, z1, z2, z3, z4⟩, _⟩ := E
          go_wp2
          obtain ⟨⟨_, q0, q1, q2, q3, q4, _, _, _, _, _⟩, hro⟩ := HF.out
          exact bodyPost_ret (v := .tuple #[.agg #[.int .i64 (e : Int), .slice A1 l1 c1, .slice A2 l2 c2, .slice (some ⟨g2, 0, none⟩) (lb.length + 1) k2, .int .i64 lk], .bool true]) (by simp [results, Try.results45, go_sem, q0, q1, q2, q3, q4]) rfl ⟨_, hro⟩
        | (with_reducible refine exit_is (V4.setCell ⟨w.heap.size, 3, none⟩ (.slice (some ⟨g4, 0, none⟩) (lb.length + 1) k4)) ?_)
          have E := HE4.out
          have HF := Lib.hid (E.fin HLT.out HFIN.out)
          generalize V4.setCell ⟨w.heap.size, 3, none⟩ (.slice (some ⟨g4, 0, none⟩) (lb.length + 1) k4) = X at E HF ⊢
          obtain ⟨⟨_, x0, x1, x2, x3, x4, _, _, _, _, _⟩, ⟨_, u0, u1, u2, u3, u4, z0, z1, z2, z3, z4⟩, _⟩ := E
          go_wp2
          obtain ⟨⟨_, q0, q1, q2, q3, q4, _, _, _, _, _⟩, hro⟩ := HF.out
          exact bodyPost_ret (v := .tuple #[.agg #[.int .i64 (e : Int), .slice A1 l1 c1, .slice A2 l2 c2, .slice (some ⟨g4, 0, none⟩) (lb.length + 1) k4, .int .i64 lk], .bool true]) (by simp [results, Try.results45, go_sem, q0, q1, q2, q3, q4]) rfl ⟨_, hro⟩
        | (with_reducible refine exit_is (V6.setCell ⟨w.heap.size, 3, none⟩ (.slice (some ⟨g6, 0, none⟩) (lb.length + 1) k6)) ?_)
          have E := HE6.out
          have HF := Lib.hid (E.fin HLT.out HFIN.out)
          generalize V6.setCell ⟨w.heap.size, 3, none⟩ (.slice (some ⟨g6, 0, none⟩) (lb.length + 1) k6) = X at E HF ⊢
          obtain ⟨⟨_, x0, x1, x2, x3, x4, _, _, _, _, _⟩, ⟨_, u0, u1, u2, u3, u4, z0, z1, z2, z3, z4⟩, _⟩ := E
          go_wp2
          obtain ⟨⟨_, q0, q1, q2, q3, q4, _, _, _, _, _⟩, hro⟩ := HF.out
          exact bodyPost_ret (v := .tuple #[.agg #[.int .i64 (e : Int), .slice A1 l1 c1, .slice A2 l2 c2, .slice (some ⟨g6, 0, none⟩) (lb.length + 1) k6, .int .i64 lk], .bool true]) (by simp [results, Try.results45, go_sem, q0, q1, q2, q3, q4]) rfl ⟨_, hro⟩
end Go.Proofs.Ytdgmcaehadigaaa
