/- The document's watch (ganglionref18), by contract: clash. -/
import Derived.Test.YtdgmcaehadigaaaRefRac5
import Derived.BigRegion
import Derived.Deep.RegionLaw
import Derived.Deep.DeepCutAuto
import Derived.Deep.CutBlock
import Derived.Handy
namespace Go.Proofs.Ytdgmcaehadigaaa
open Go.RowKit

theorem info_cla : (Try.prog.info? 120).map (fun i => (i.zero, i.size, i.bytes)) = some (some (.agg #[.int .i64 0, .int .i64 0, .bool false, .int .i64 0, .int .i64 0, .bool false]), 6, 48) := by kernel_rfl
set_option maxRecDepth 100000 in
/-- A list of clashes is copied behind an empty one of the call's own. -/
theorem appC1 {S : Nat → Prop} {X : World} {b l c3 : Nat} {A3 : Option Addr} {lb : List ClT} (hb : X.heap[b]? = some (.cells #[] 120 (0, 0))) (hA : RdG S X A3 (cellsCl lb)) (hl : lb.length = l) (hf : l ≤ 100000) :
    ∃ g c X', (∀ ty, (Builtin.append_ #[28, 28] ty #[.slice (some ⟨b, 0, none⟩) 0 0, .slice A3 l c3]).run Try.prog X = .ok (.slice (some ⟨g, 0, none⟩) l c) X') ∧ X'.ownsRow b 120 6 (.slice (some ⟨g, 0, none⟩) l c) l (cellsCl lb) ∧ X.grownBy X' (some b) := by
  obtain ⟨i0, hi0, hz0, hz1, hz2⟩ := info_parts info_cla
  have hblt : b < X.heap.size := (Array.getElem?_eq_some_iff.1 hb).1
  have hown : X.ownsRow b 120 6 (.slice (some ⟨b, 0, none⟩) 0 0) 0 [] := ⟨by simp, .inr ⟨b, 0, #[], rfl, Nat.le_refl _, hb, Nat.le_refl _, by unfold maxLen; omega, by simp, by simp⟩⟩
  cases A3 with
  | none =>
    have hn : lb = [] := by
      cases lb with
      | nil => rfl
      | cons p r => obtain ⟨_, _, he, _⟩ := hA 0 _ rfl; cases he
    subst hn
    have hl0 : l = 0 := by simpa using hl.symm
    subst hl0
    refine ⟨b, 0, X, fun ty => ?_, hown, ⟨rfl, rfl, rfl, Nat.le_refl _, fun _ _ _ => rfl⟩⟩
    simp [Builtin.append_, run_underlying Try.underlying28, sizeOf, typeInfo, hi0, Builtin.lenOf, Builtin.firstCells, storeCells]
  | some ad =>
    have hnews : ∀ j u, (cellsCl lb)[j]? = some u → X.cell? (ad.add j) = some u := fun j u hj => by
      obtain ⟨b, off, e, _, _, hc⟩ := hA j u hj
      injection e with e
      subst e
      rw [show Addr.add ⟨b, off, none⟩ j = ⟨b, off + j, none⟩ from by simp [Addr.add]]
      exact hc
    have key : ∀ ty, ∃ v' w', (Builtin.append_ #[28, 28] ty #[.slice (some ⟨b, 0, none⟩) 0 0, .slice (some ad) l c3]).run Try.prog X = .ok v' w' ∧ w'.ownsRow b 120 6 v' (0 + l) ([] ++ cellsCl lb) ∧ X.grownBy w' (Value.slice (some ⟨b, 0, none⟩) 0 0).ownBlock ∧
        (v' = .slice none 0 0 ↔ Value.slice (some ⟨b, 0, none⟩) 0 0 = .slice none 0 0 ∧ l = 0) ∧ _ := fun ty =>
      run_append_own_at (P := Try.prog) X b 28 ty 120 i0 _ 6 48 Try.underlying28 hi0 hz0 hz1 hz2 rfl (by decide) _ 0 [] hown ad l c3 (cellsCl lb) (by rw [cellsCl_len, hl]) hnews (cellsCl_one _) (by unfold maxLen; omega) (by omega) (Nat.le_of_lt hblt)
    obtain ⟨v', w', hr, h2, h3, h4, _⟩ := key 0
    rw [Nat.zero_add, List.nil_append] at h2
    rcases h2.2 with ⟨hv, _⟩ | ⟨g, cap, cur, rfl, _⟩
    · exact absurd (h4.1 hv).1 (by intro e; cases e)
    · exact ⟨g, cap, w', fun ty => hr, h2, h3⟩
/-- .. and one more. -/
theorem appC2 {X : World} {nb l base : Nat} {V : Value} {lb : List ClT} {wk pl v : Int} {b1 b2 : Bool} (hrow : X.ownsRow base 120 6 V l (cellsCl lb)) (hn : X.heap[nb]? = some (.cells #[.int .i64 wk, .int .i64 pl, .bool b1, .int .i64 v, .int .i64 pl, .bool b2] 120 (0, 0))) (hf : l ≤ 100000) (hbase : base ≤ X.heap.size) :
    ∃ g2 c2 X', (∀ ty, (Builtin.append_ #[28, 28] ty #[V, .slice (some ⟨nb, 0, none⟩) 1 1]).run Try.prog X = .ok (.slice (some ⟨g2, 0, none⟩) (l + 1) c2) X') ∧ X'.ownsRow base 120 6 (.slice (some ⟨g2, 0, none⟩) (l + 1) c2) (l + 1) (cellsCl (lb ++ [((((wk, pl), b1), ((v, pl), b2)) : ClT)])) ∧ X.grownBy X' V.ownBlock := by
  obtain ⟨i0, hi0, hz0, hz1, hz2⟩ := info_parts info_cla
  obtain ⟨g2, c2, X', hr, h2, h3, _, _⟩ := run_append_lies (P := Try.prog) X 28 0 base 120 i0 _ 6 48 Try.underlying28 hi0 hz0 hz1 hz2 rfl (by decide) _ l (cellsCl lb) hrow ⟨nb, 0, none⟩ 1 1 [.int .i64 wk, .int .i64 pl, .bool b1, .int .i64 v, .int .i64 pl, .bool b2] rfl (World.news_of_block (cs := #[.int .i64 wk, .int .i64 pl, .bool b1, .int .i64 v, .int .i64 pl, .bool b2]) (t := 120) (fr := (0, 0)) hn) (by simp [Value.oneCell']) (by decide) (by unfold maxLen; omega) (by omega) hbase X.heap.size rfl
  exact ⟨g2, c2, X', fun ty => hr, by rw [cellsCl_snoc]; exact h2, h3⟩
theorem step_append_run {P : Program} {ops : Array Oper} {o : Oper} {a : Act} {K : Act → World → Prop} {Q : Exit → Act → World → Prop} {E : Prop} (w : World) (hgd : o.guard = none) (s x : Operand) (t : TypeId)
    (ho : o.op = .call { callee := .builtin .append, args := #[s, x], argTypes := #[t, t] }) (v u R : Value) (W' : World) (hr : ∀ ty, (Builtin.append_ #[t, t] ty #[v, u]).run P w = .ok R W') (hs : a.eval s = v) (hx : a.eval x = u)
    (h : K (a.put o.dst R) W') : if Region.wanted o (yielded ops a.tmps) = true then Oper.wp P o a w K Q else E := by
  have hw : Region.wanted o (yielded ops a.tmps) = true := by simp [Region.wanted, hgd]
  rw [if_pos hw]
  unfold Oper.wp execOp
  simp only [ho, resolve, invoke, builtin, Sem.run_bind, Sem.run_pure, Result.andThen_ok, List.map_toArray, List.map_cons, List.map_nil, hs, hx, hr]
  exact h
theorem world_is {P : Program} {ops : Array Oper} {o : Oper} {a : Act} {K : Act → World → Prop} {Q : Exit → Act → World → Prop} {E : Prop} (w : World) (h : if Region.wanted o (yielded ops a.tmps) = true then Oper.wp P o a w K Q else E) : if Region.wanted o (yielded ops a.tmps) = true then Oper.wp P o a w K Q else E := h
theorem exit_is {f : Exit → Act → World → Prop} {x : Exit} {a : Act} (W : World) (h : f x a W) : f x a W := h
/-- What a clash leaves: the list, and it. -/
def ClaOut (w : World) (S : Nat → Prop) (v1 v2 v3 v4 : Value) (n : Nat) (L : List ClT) (e : Ending) (w' : World) : Prop := ∃ A c, e = .returned (.agg #[v1, v2, v3, v4, .slice A n c]) ∧ RdG (SN S w) w' A (cellsCl L) ∧ Below w.heap.size w w'
/-- Behind the store of the new list: the box, the result's box, what lies below, the list. -/
def ClaEnd (w W : World) (S : Nat → Prop) (v1 v2 v3 v4 : Value) (g n k : Nat) (L : List ClT) : Prop :=
  Bx W w.heap.size [v1, v2, v3, v4, .slice (some ⟨g, 0, none⟩) n k] ∧ Bx W (w.heap.size + 1 + 1) [.slice none 0 0, .slice none 0 0, .slice none 0 0, .slice none 0 0, .slice none 0 0] ∧ Below w.heap.size w W ∧ RdG S W (some ⟨g, 0, none⟩) (cellsCl L) ∧ w.heap.size + 4 ≤ g
theorem ClaEnd.of {w U V : World} {S : Nat → Prop} {v1 v2 v3 v4 v5 : Value} {g k : Nat} {L : List ClT} (n : Nat) (h1 : Bx U w.heap.size [v1, v2, v3, v4, v5]) (h2 : Bx U (w.heap.size + 1 + 1) [.slice none 0 0, .slice none 0 0, .slice none 0 0, .slice none 0 0, .slice none 0 0]) (hb : Below w.heap.size w U) (hs : U.heap.size = w.heap.size + 4)
    (hf : Below U.heap.size U V ∧ RdG S V (some ⟨g, 0, none⟩) (cellsCl L) ∧ U.heap.size ≤ g) : ClaEnd w (V.setCell ⟨w.heap.size, 4, none⟩ (.slice (some ⟨g, 0, none⟩) n k)) S v1 v2 v3 v4 g n k L := by
  refine ⟨(h1.below hf.1).set 4 _, (h2.below hf.1).other (a := ⟨w.heap.size, 4, none⟩) (by show w.heap.size ≠ w.heap.size + 1 + 1; omega) _, bl1 (Below.next hb hf.1) (Nat.le_refl _) _, fun j u hj => ?_, by omega⟩
  obtain ⟨b, off, e, q1, q2, q3⟩ := hf.2.1 j u hj
  have hbg : b = g := by injection e with e; injection e with e; exact e.symm
  refine ⟨b, off, e, by rw [World.size_setCell]; exact q1, q2, ?_⟩
  rw [World.cell?_setCell_far _ _ _ _ (by show w.heap.size ≠ b; omega)]
  exact q3
theorem ClaEnd.fin {w X : World} {S T : Nat → Prop} {v1 v2 v3 v4 : Value} {g n k : Nat} {L : List ClT} (h : ClaEnd w X T v1 v2 v3 v4 g n k L) (hT : ∀ b, T b → w.heap.size ≤ b) :
    Bx (((((X.setCell ⟨w.heap.size + 1 + 1, 0, none⟩ v1).setCell ⟨w.heap.size + 1 + 1, 1, none⟩ v2).setCell ⟨w.heap.size + 1 + 1, 2, none⟩ v3).setCell ⟨w.heap.size + 1 + 1, 3, none⟩ v4).setCell ⟨w.heap.size + 1 + 1, 4, none⟩ (.slice (some ⟨g, 0, none⟩) n k)) (w.heap.size + 1 + 1) [v1, v2, v3, v4, .slice (some ⟨g, 0, none⟩) n k] ∧
    ClaOut w S v1 v2 v3 v4 n L (.returned (.agg #[v1, v2, v3, v4, .slice (some ⟨g, 0, none⟩) n k])) (((((X.setCell ⟨w.heap.size + 1 + 1, 0, none⟩ v1).setCell ⟨w.heap.size + 1 + 1, 1, none⟩ v2).setCell ⟨w.heap.size + 1 + 1, 2, none⟩ v3).setCell ⟨w.heap.size + 1 + 1, 3, none⟩ v4).setCell ⟨w.heap.size + 1 + 1, 4, none⟩ (.slice (some ⟨g, 0, none⟩) n k)) := by
  obtain ⟨_, h2, h3, h4, h5⟩ := h
  refine ⟨h2.put5 _ _ _ _ _, _, _, rfl, fun j u hj => ?_, below_put5 h3 (by omega) _ _ _ _ _⟩
  obtain ⟨b, off, e, q1, q2, q3⟩ := h4 j u hj
  have hbg : b = g := by injection e with e; injection e with e; exact e.symm
  have hne : w.heap.size + 1 + 1 ≠ b := by omega
  refine ⟨b, off, e, by simpa only [World.size_setCell] using q1, .inr (hT b q2), ?_⟩
  rw [World.cell?_setCell_far _ _ _ _ hne, World.cell?_setCell_far _ _ _ _ hne, World.cell?_setCell_far _ _ _ _ hne, World.cell?_setCell_far _ _ _ _ hne, World.cell?_setCell_far _ _ _ _ hne]
  exact q3
set_option maxRecDepth 100000 in
set_option maxHeartbeats 8000000 in
theorem RClash_any {w : World} {S : Nat → Prop} {A1 A2 A3 A4 A5 : Option Addr} {c1 c2 c3 c4 c5 l1 l2 l3 l4 l5 : Nat} {L : List ClT} (h : RdG S w A5 (cellsCl L)) (hl : L.length = l5) (few : l5 ≤ 1000) (pl wk tm : Int) (b1 : Bool) (v : Int) (b2 : Bool) :
    Calls Try.prog 80 #[.agg #[.slice A1 l1 c1, .slice A2 l2 c2, .slice A3 l3 c3, .slice A4 l4 c4, .slice A5 l5 c5], .agg #[.int .i64 pl, .int .i64 wk, .int .i64 tm], .bool b1, .int .i64 v, .bool b2] w (ClaOut w S (.slice A1 l1 c1) (.slice A2 l2 c2) (.slice A3 l3 c3) (.slice A4 l4 c4) (l5 + 1) (L ++ [((((wk, pl), b1), ((v, pl), b2)) : ClT)])) := by
  have HL := Lib.hid hl
  have bx1 := Bx.new w [.slice A1 l1 c1, .slice A2 l2 c2, .slice A3 l3 c3, .slice A4 l4 c4, .slice A5 l5 c5] 30
  have bx2 := Bx.new (w.alloc (.cells #[.slice A1 l1 c1, .slice A2 l2 c2, .slice A3 l3 c3, .slice A4 l4 c4, .slice A5 l5 c5] 30)) [.int .i64 pl, .int .i64 wk, .int .i64 tm] 131
  have bx3 := Bx.new ((w.alloc (.cells #[.slice A1 l1 c1, .slice A2 l2 c2, .slice A3 l3 c3, .slice A4 l4 c4, .slice A5 l5 c5] 30)).alloc (.cells #[.int .i64 pl, .int .i64 wk, .int .i64 tm] 131)) [.slice none 0 0, .slice none 0 0, .slice none 0 0, .slice none 0 0, .slice none 0 0] 30
  have bb1 := below_new w (.cells #[.slice A1 l1 c1, .slice A2 l2 c2, .slice A3 l3 c3, .slice A4 l4 c4, .slice A5 l5 c5] 30)
  have bb2 := below_new (w.alloc (.cells #[.slice A1 l1 c1, .slice A2 l2 c2, .slice A3 l3 c3, .slice A4 l4 c4, .slice A5 l5 c5] 30)) (.cells #[.int .i64 pl, .int .i64 wk, .int .i64 tm] 131)
  have bb3 := below_new ((w.alloc (.cells #[.slice A1 l1 c1, .slice A2 l2 c2, .slice A3 l3 c3, .slice A4 l4 c4, .slice A5 l5 c5] 30)).alloc (.cells #[.int .i64 pl, .int .i64 wk, .int .i64 tm] 131)) (.cells #[.slice none 0 0, .slice none 0 0, .slice none 0 0, .slice none 0 0, .slice none 0 0] 30)
  have HT : Hid (∀ Y, Y = ((w.alloc (.cells #[.slice A1 l1 c1, .slice A2 l2 c2, .slice A3 l3 c3, .slice A4 l4 c4, .slice A5 l5 c5] 30)).alloc (.cells #[.int .i64 pl, .int .i64 wk, .int .i64 tm] 131)).alloc (.cells #[.slice none 0 0, .slice none 0 0, .slice none 0 0, .slice none 0 0, .slice none 0 0] 30) → Bx Y w.heap.size [.slice A1 l1 c1, .slice A2 l2 c2, .slice A3 l3 c3, .slice A4 l4 c4, .slice A5 l5 c5] ∧ Bx Y (w.heap.size + 1) [.int .i64 pl, .int .i64 wk, .int .i64 tm] ∧ Bx Y (w.heap.size + 1 + 1) [.slice none 0 0, .slice none 0 0, .slice none 0 0, .slice none 0 0, .slice none 0 0] ∧ Below w.heap.size w Y ∧ Y.heap.size = w.heap.size + 3) := Lib.hid fun Y hY => by
    subst hY
    simp only [World.size_alloc] at bx2 bx3
    exact ⟨(bx1.below bb2).below bb3, bx2.below bb3, bx3, Below.next (Below.next bb1 bb2) bb3, by simp⟩
  have HR := Lib.hid h
  clear bx1 bx2 bx3 bb1 bb2 bb3 h hl
  go_enter Try.func80, Try.ntmps80
  go_upto_region 1 with (fail)
  obtain ⟨Y, hY⟩ : ∃ Y, Y = ((w.alloc (.cells #[.slice A1 l1 c1, .slice A2 l2 c2, .slice A3 l3 c3, .slice A4 l4 c4, .slice A5 l5 c5] 30)).alloc (.cells #[.int .i64 pl, .int .i64 wk, .int .i64 tm] 131)).alloc (.cells #[.slice none 0 0, .slice none 0 0, .slice none 0 0, .slice none 0 0, .slice none 0 0] 30) := ⟨_, rfl⟩
  have HY := Lib.hid (HT.out Y hY)
  rw [← hY]
  clear hY HT
  have n0 := HY.out.2.1.c 0 _ rfl
  have n1 := HY.out.2.1.c 1 _ rfl
  go_upto_region 2 with (fail)
  have HU : Hid (∀ U, U = Y.alloc (.cells #[.int .i64 wk, .int .i64 pl, .bool b1, .int .i64 v, .int .i64 pl, .bool b2] 120) → Bx U w.heap.size [.slice A1 l1 c1, .slice A2 l2 c2, .slice A3 l3 c3, .slice A4 l4 c4, .slice A5 l5 c5] ∧ Bx U (w.heap.size + 1 + 1) [.slice none 0 0, .slice none 0 0, .slice none 0 0, .slice none 0 0, .slice none 0 0] ∧ Bx U Y.heap.size [.int .i64 wk, .int .i64 pl, .bool b1, .int .i64 v, .int .i64 pl, .bool b2] ∧ Below w.heap.size w U ∧ U.heap.size = w.heap.size + 4) := Lib.hid fun U hU => by
    subst hU
    have hb := below_new Y (.cells #[.int .i64 wk, .int .i64 pl, .bool b1, .int .i64 v, .int .i64 pl, .bool b2] 120)
    have hbx := Bx.new Y [.int .i64 wk, .int .i64 pl, .bool b1, .int .i64 v, .int .i64 pl, .bool b2] 120
    refine ⟨HY.out.1.below hb, HY.out.2.2.1.below hb, hbx, Below.next HY.out.2.2.2.1 hb, ?_⟩
    rw [World.size_alloc, HY.out.2.2.2.2]
  obtain ⟨wr, hwr⟩ : ∃ wr, wr = Y.alloc (.cells #[.int .i64 wk, .int .i64 pl, .bool b1, .int .i64 v, .int .i64 pl, .bool b2] 120) := ⟨_, rfl⟩
  have HV := Lib.hid (HU.out wr hwr)
  rw [← hwr]
  obtain ⟨E, hE⟩ : ∃ E, Y.heap.size = E := ⟨_, rfl⟩
  rw [hE] at HV ⊢
  clear hwr HU n0 n1 HY hE
  have H1 := Lib.hid HV.out.1
  have H2 := Lib.hid HV.out.2.1
  have H3 := Lib.hid HV.out.2.2.1
  have HBW := Lib.hid HV.out.2.2.2.1
  have HSZ := Lib.hid HV.out.2.2.2.2
  have HLW := Lib.hid (HR.out.below HBW.out)
  have few2 : l5 ≤ 100000 := by omega
  have HTT : Hid (∀ b, (fun b => wr.heap.size ≤ b) b → w.heap.size ≤ b) := Lib.hid fun b hb => Nat.le_trans HBW.out.size hb
  clear HV HR
  have a1 := appC1 (X := (wr.alloc (.cells #[] 120)).drew) (b := wr.heap.size) (A3 := A5) (c3 := c5) (heap_alloc_last wr _) (HLW.out.below (below_new _ _).drew) HL.out few2
  have bA : Below wr.heap.size wr ((wr.alloc (.cells #[] 120)).drew) := (below_new _ _).drew
  obtain ⟨g1, k1, V1, hr1, row1, gr1⟩ := a1
  have bV1 : Below wr.heap.size wr V1 := bA.grown gr1 (by simp) (fun g hg => by injection hg with hg; omega)
  obtain ⟨g2, k2, V2, hr2, row2, gr2⟩ := appC2 (X := V1.alloc (.cells #[.int .i64 wk, .int .i64 pl, .bool b1, .int .i64 v, .int .i64 pl, .bool b2] 120)) (nb := V1.heap.size) (lb := L) (wk := wk) (pl := pl) (v := v) (b1 := b1) (b2 := b2) (row1.alloc _) (heap_alloc_last V1 _) few2 (by have := bV1.size; simp; omega)
  have bV2 : Below wr.heap.size wr V2 := (bV1.alloc bV1.size _).grown gr2 (by have := bV1.size; simp; omega) (fun g hg => by have := (row1.lt g hg).1; omega)
  have HF1 : Hid (Below wr.heap.size wr V2 ∧ RdG (fun b => wr.heap.size ≤ b) V2 (some ⟨g2, 0, none⟩) (cellsCl (L ++ [((((wk, pl), b1), ((v, pl), b2)) : ClT)])) ∧ wr.heap.size ≤ g2) := Lib.hid ⟨bV2, RdG.of_own row2 (fun e => by omega) (fun b hb => hb), (row2.lt g2 rfl).1⟩
  obtain ⟨g3, k3, V3, hr3, row3, gr3⟩ := appC1 (X := ((wr.alloc (.cells #[] 120)).alloc (.cells #[.int .i64 wk, .int .i64 pl, .bool b1, .int .i64 v, .int .i64 pl, .bool b2] 120)).drew) (b := wr.heap.size) (A3 := A5) (c3 := c5) ((Below.heap_alloc _ _ _ (by simp)).trans (heap_alloc_last wr _)) (HLW.out.below (below_one (below_new _ _) _).drew) HL.out few2
  have bB : Below wr.heap.size wr (((wr.alloc (.cells #[] 120)).alloc (.cells #[.int .i64 wk, .int .i64 pl, .bool b1, .int .i64 v, .int .i64 pl, .bool b2] 120)).drew) := (below_one (below_new _ _) _).drew
  have bV3 : Below wr.heap.size wr V3 := bB.grown gr3 (by simp; omega) (fun g hg => by injection hg with hg; omega)
  obtain ⟨g4, k4, V4, hr4, row4, gr4⟩ := appC2 (X := V3) (nb := wr.heap.size + 1) (lb := L) (wk := wk) (pl := pl) (v := v) (b1 := b1) (b2 := b2) row3 ((gr3.block (wr.heap.size + 1) (by simp) (by simp)).trans (by have := heap_alloc_last (wr.alloc (.cells #[] 120)) (.cells #[.int .i64 wk, .int .i64 pl, .bool b1, .int .i64 v, .int .i64 pl, .bool b2] 120); rw [World.size_alloc] at this; exact this)) few2 bV3.size
  have bV4 : Below wr.heap.size wr V4 := bV3.grown gr4 bV3.size (fun g hg => by have := (row3.lt g hg).1; omega)
  have HF2 : Hid (Below wr.heap.size wr V4 ∧ RdG (fun b => wr.heap.size ≤ b) V4 (some ⟨g4, 0, none⟩) (cellsCl (L ++ [((((wk, pl), b1), ((v, pl), b2)) : ClT)])) ∧ wr.heap.size ≤ g4) := Lib.hid ⟨bV4, RdG.of_own row4 (fun e => by omega) (fun b hb => hb), (row4.lt g4 rfl).1⟩
  obtain ⟨g5, k5, V5, hr5, row5, gr5⟩ := appC1 (X := ((wr.alloc (.cells #[.int .i64 wk, .int .i64 pl, .bool b1, .int .i64 v, .int .i64 pl, .bool b2] 120)).alloc (.cells #[] 120)).drew) (b := wr.heap.size + 1) (A3 := A5) (c3 := c5) (by have := heap_alloc_last (wr.alloc (.cells #[.int .i64 wk, .int .i64 pl, .bool b1, .int .i64 v, .int .i64 pl, .bool b2] 120)) (.cells #[] 120); rw [World.size_alloc] at this; exact this) (HLW.out.below (below_one (below_new _ _) _).drew) HL.out few2
  have bC : Below wr.heap.size wr (((wr.alloc (.cells #[.int .i64 wk, .int .i64 pl, .bool b1, .int .i64 v, .int .i64 pl, .bool b2] 120)).alloc (.cells #[] 120)).drew) := (below_one (below_new _ _) _).drew
  have bV5 : Below wr.heap.size wr V5 := bC.grown gr5 (by simp; omega) (fun g hg => by injection hg with hg; omega)
  obtain ⟨g6, k6, V6, hr6, row6, gr6⟩ := appC2 (X := V5) (nb := wr.heap.size) (lb := L) (wk := wk) (pl := pl) (v := v) (b1 := b1) (b2 := b2) row5 ((gr5.block wr.heap.size (by simp; omega) (by simp)).trans ((Below.heap_alloc _ _ _ (by simp)).trans (heap_alloc_last wr _))) few2 (by have := gr5.size; simp at this; omega)
  have bV6 : Below wr.heap.size wr V6 := bV5.grown gr6 bV5.size (fun g hg => by have := (row5.lt g hg).1; omega)
  have HF3 : Hid (Below wr.heap.size wr V6 ∧ RdG (fun b => wr.heap.size ≤ b) V6 (some ⟨g6, 0, none⟩) (cellsCl (L ++ [((((wk, pl), b1), ((v, pl), b2)) : ClT)])) ∧ wr.heap.size ≤ g6) := Lib.hid ⟨bV6, RdG.of_own row6 (fun e => by omega) (fun b hb => by omega), by have := (row6.lt g6 rfl).1; omega⟩
  have hlt1 := H1.out.lt
  have hlt2 := H2.out.lt
  have hlt3 := H3.out.lt
  have x4 := H1.out.c 4 _ rfl
  have d4 := H1.out.f 4
  have m0 := H3.out.c 0 _ rfl
  have m1 := H3.out.c 1 _ rfl
  have m2 := H3.out.c 2 _ rfl
  have m3 := H3.out.c 3 _ rfl
  have m4 := H3.out.c 4 _ rfl
  have m5 := H3.out.c 5 _ rfl
  have e2 := (H1.out.below bV2).f 4
  have e4 := (H1.out.below bV4).f 4
  have e6 := (H1.out.below bV6).f 4
  have i2 := (H1.out.below bV2).c 4 _ rfl
  have i4 := (H1.out.below bV4).c 4 _ rfl
  have i6 := (H1.out.below bV6).c 4 _ rfl
  have HE2 := Lib.hid (ClaEnd.of (k := k2) (l5 + 1) H1.out H2.out HBW.out HSZ.out HF1.out)
  have HE4 := Lib.hid (ClaEnd.of (k := k4) (l5 + 1) H1.out H2.out HBW.out HSZ.out HF2.out)
  have HE6 := Lib.hid (ClaEnd.of (k := k6) (l5 + 1) H1.out H2.out HBW.out HSZ.out HF3.out)
  have q10 := (H3.out.below bV1).c 0 _ rfl
  have q11 := (H3.out.below bV1).c 1 _ rfl
  have q12 := (H3.out.below bV1).c 2 _ rfl
  have q13 := (H3.out.below bV1).c 3 _ rfl
  have q14 := (H3.out.below bV1).c 4 _ rfl
  have q15 := (H3.out.below bV1).c 5 _ rfl
  have R1 := Lib.hid hr1
  have R2 := Lib.hid hr2
  have R3 := Lib.hid hr3
  have R4 := Lib.hid hr4
  have R5 := Lib.hid hr5
  have R6 := Lib.hid hr6
  clear row1 row2 row3 row4 row5 row6 gr1 gr2 gr3 gr4 gr5 gr6 bA bB bC bV1 bV2 bV3 bV4 bV5 bV6 few2 hr1 hr2 hr3 hr4 hr5 hr6 HF1 HF2 HF3 H1 H2 H3 HBW HSZ HLW HL
  go_region_law (first | ((with_reducible refine world_is ((wr.alloc (.cells #[] 120)).drew) ?_); refine step_append_run _ (by rfl) _ _ _ (by rfl) _ _ _ _ R1.out (by rfl) (by rfl) ?_) | ((with_reducible refine world_is (V1.alloc (.cells #[.int .i64 wk, .int .i64 pl, .bool b1, .int .i64 v, .int .i64 pl, .bool b2] 120)) ?_); refine step_append_run _ (by rfl) _ _ _ (by rfl) _ _ _ _ R2.out (by rfl) (by rfl) ?_) | ((with_reducible refine world_is (((wr.alloc (.cells #[] 120)).alloc (.cells #[.int .i64 wk, .int .i64 pl, .bool b1, .int .i64 v, .int .i64 pl, .bool b2] 120)).drew) ?_); refine step_append_run _ (by rfl) _ _ _ (by rfl) _ _ _ _ R3.out (by rfl) (by rfl) ?_) | ((with_reducible refine world_is (V3) ?_); refine step_append_run _ (by rfl) _ _ _ (by rfl) _ _ _ _ R4.out (by rfl) (by rfl) ?_) | ((with_reducible refine world_is (((wr.alloc (.cells #[.int .i64 wk, .int .i64 pl, .bool b1, .int .i64 v, .int .i64 pl, .bool b2] 120)).alloc (.cells #[] 120)).drew) ?_); refine step_append_run _ (by rfl) _ _ _ (by rfl) _ _ _ _ R5.out (by rfl) (by rfl) ?_) | ((with_reducible refine world_is (V5) ?_); refine step_append_run _ (by rfl) _ _ _ (by rfl) _ _ _ _ R6.out (by rfl) (by rfl) ?_))
  all_goals
    first
    | (with_reducible refine exit_is (V2.setCell ⟨w.heap.size, 4, none⟩ (.slice (some ⟨g2, 0, none⟩) (l5 + 1) k2)) ?_)
      have E := HE2.out
      have HF := Lib.hid (E.fin (S := S) HTT.out)
      generalize V2.setCell ⟨w.heap.size, 4, none⟩ (.slice (some ⟨g2, 0, none⟩) (l5 + 1) k2) = X at E HF ⊢
      obtain ⟨z1, z2, _⟩ := E
      have x0 := z1.c 0 _ rfl
      have x1 := z1.c 1 _ rfl
      have x2 := z1.c 2 _ rfl
      have x3 := z1.c 3 _ rfl
      have x4 := z1.c 4 _ rfl
      have y0 := z2.c 0 _ rfl
      have y1 := z2.c 1 _ rfl
      have y2 := z2.c 2 _ rfl
      have y3 := z2.c 3 _ rfl
      have y4 := z2.c 4 _ rfl
      have f0 := z2.f 0
      have f1 := z2.f 1
      have f2 := z2.f 2
      have f3 := z2.f 3
      have f4 := z2.f 4
      clear z1 z2
      go_wp2
      obtain ⟨hq, hro⟩ := HF.out
      have q0 := hq.c 0 _ rfl
      have q1 := hq.c 1 _ rfl
      have q2 := hq.c 2 _ rfl
      have q3 := hq.c 3 _ rfl
      have q4 := hq.c 4 _ rfl
      exact bodyPost_ret (v := .agg #[.slice A1 l1 c1, .slice A2 l2 c2, .slice A3 l3 c3, .slice A4 l4 c4, .slice (some ⟨g2, 0, none⟩) (l5 + 1) k2]) (by simp [results, Try.results80, go_sem, q0, q1, q2, q3, q4]) rfl hro
    | (with_reducible refine exit_is (V4.setCell ⟨w.heap.size, 4, none⟩ (.slice (some ⟨g4, 0, none⟩) (l5 + 1) k4)) ?_)
      have E := HE4.out
      have HF := Lib.hid (E.fin (S := S) HTT.out)
      generalize V4.setCell ⟨w.heap.size, 4, none⟩ (.slice (some ⟨g4, 0, none⟩) (l5 + 1) k4) = X at E HF ⊢
      obtain ⟨z1, z2, _⟩ := E
      have x0 := z1.c 0 _ rfl
      have x1 := z1.c 1 _ rfl
      have x2 := z1.c 2 _ rfl
      have x3 := z1.c 3 _ rfl
      have x4 := z1.c 4 _ rfl
      have y0 := z2.c 0 _ rfl
      have y1 := z2.c 1 _ rfl
      have y2 := z2.c 2 _ rfl
      have y3 := z2.c 3 _ rfl
      have y4 := z2.c 4 _ rfl
      have f0 := z2.f 0
      have f1 := z2.f 1
      have f2 := z2.f 2
      have f3 := z2.f 3
      have f4 := z2.f 4
      clear z1 z2
      go_wp2
      obtain ⟨hq, hro⟩ := HF.out
      have q0 := hq.c 0 _ rfl
      have q1 := hq.c 1 _ rfl
      have q2 := hq.c 2 _ rfl
      have q3 := hq.c 3 _ rfl
      have q4 := hq.c 4 _ rfl
      exact bodyPost_ret (v := .agg #[.slice A1 l1 c1, .slice A2 l2 c2, .slice A3 l3 c3, .slice A4 l4 c4, .slice (some ⟨g4, 0, none⟩) (l5 + 1) k4]) (by simp [results, Try.results80, go_sem, q0, q1, q2, q3, q4]) rfl hro
    | (with_reducible refine exit_is (V6.setCell ⟨w.heap.size, 4, none⟩ (.slice (some ⟨g6, 0, none⟩) (l5 + 1) k6)) ?_)
      have E := HE6.out
      have HF := Lib.hid (E.fin (S := S) HTT.out)
      generalize V6.setCell ⟨w.heap.size, 4, none⟩ (.slice (some ⟨g6, 0, none⟩) (l5 + 1) k6) = X at E HF ⊢
      obtain ⟨z1, z2, _⟩ := E
      have x0 := z1.c 0 _ rfl
      have x1 := z1.c 1 _ rfl
      have x2 := z1.c 2 _ rfl
      have x3 := z1.c 3 _ rfl
      have x4 := z1.c 4 _ rfl
      have y0 := z2.c 0 _ rfl
      have y1 := z2.c 1 _ rfl
      have y2 := z2.c 2 _ rfl
      have y3 := z2.c 3 _ rfl
      have y4 := z2.c 4 _ rfl
      have f0 := z2.f 0
      have f1 := z2.f 1
      have f2 := z2.f 2
      have f3 := z2.f 3
      have f4 := z2.f 4
      clear z1 z2
      go_wp2
      obtain ⟨hq, hro⟩ := HF.out
      have q0 := hq.c 0 _ rfl
      have q1 := hq.c 1 _ rfl
      have q2 := hq.c 2 _ rfl
      have q3 := hq.c 3 _ rfl
      have q4 := hq.c 4 _ rfl
      exact bodyPost_ret (v := .agg #[.slice A1 l1 c1, .slice A2 l2 c2, .slice A3 l3 c3, .slice A4 l4 c4, .slice (some ⟨g6, 0, none⟩) (l5 + 1) k6]) (by simp [results, Try.results80, go_sem, q0, q1, q2, q3, q4]) rfl hro
end Go.Proofs.Ytdgmcaehadigaaa
