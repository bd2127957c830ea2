/- A probe in memory; New, Knows, Waits, Found, Want, by contract. -/
import Derived.Test.YtajmnhnepoomjaaQueUse
import Derived.Test.YtajmnhnepoomjaaEdSpot
import Derived.Test.YtajmnhnepoomjaaTagHas
import Derived.Maps.OwnSet
import Derived.WalkSpells
namespace Go.Proofs.Ytajmnhnepoomjaa
open Go.RowKit Go.Shelf Go.Sort Go.Lib Go.Maps

theorem lawI : Keyed Try.prog 3 := int_keyed Try.underlying3
theorem zeroU (w : World) : (zeroValue 123).run Try.prog w = .ok (.agg #[]) w := by kernel_rfl
/-- The set of slots that are known. -/
def setK (K : List Int) : DataW Unit := setOf (.agg []) (K.map (Lit.int .i64))
theorem setK_snoc (K : List Int) (x : Int) : setK (K ++ [x]) = (setK K).put (Lit.int .i64 x) (.agg []) := by
  unfold setK
  rw [List.map_append, List.map_cons, List.map_nil, setOf_snoc]
theorem any_key (x : Int) : ∀ l : List Int, l.any ((fun y : Lit => y.sameKey (.int .i64 x)) ∘ Lit.int .i64) = l.contains x
  | [] => rfl
  | a :: r => by
    rw [List.any_cons, List.contains_cons, any_key x r]
    congr 1
    show decide (IntKind.i64 = IntKind.i64 ∧ a = x) = (x == a)
    by_cases e : a = x
    · subst e
      simp
    · have e' : ¬ x = a := fun h => e h.symm
      simp [e, e']
theorem has_setK (K : List Int) (x : Int) : Maps.has (setK K) (Lit.int .i64 x) = K.contains x := by
  unfold setK
  rw [has_setOf]
  · rw [List.any_map]
    exact any_key x K
  · intro y hy
    obtain ⟨z, _, rfl⟩ := List.mem_map.1 hy
    trivial
theorem wfI {x : Int} (h : -9223372036854775808 ≤ x ∧ x ≤ 9223372036854775807) : (Lit.int .i64 x).wf = true := WalkArith.wf_i64 h

/-- A vector whose block stays. -/
structure VecIn (P : Nat → Prop) (W : World) (A : Option Addr) (zs : List Int) : Prop where
  v : VecB W W.heap.size A zs
  p : ∀ b o m, A = some ⟨b, o, m⟩ → zs ≠ [] → P b
theorem VecIn.stay {P : Nat → Prop} {W W' : World} {A : Option Addr} {zs : List Int} (h : VecIn P W A zs) (hs : Stay P W W') : VecIn P W' A zs := by
  refine ⟨⟨fun k z hz => ?_, h.v.len, h.v.all⟩, h.p⟩
  obtain ⟨b, off, hA, hb, hc⟩ := h.v.rd k z hz
  have hp := h.p b off none hA (fun e => by subst e; simp at hz)
  exact ⟨b, off, hA, Nat.lt_of_lt_of_le hb hs.size, (World.cell?_of_block (a := ⟨b, off + k, none⟩) (hs.blk b hp)).trans hc⟩
theorem VecIn.below {P : Nat → Prop} {W W' : World} {A : Option Addr} {zs : List Int} (h : VecIn P W A zs) (hb : Below W.heap.size W W') : VecIn P W' A zs := ⟨(h.v.below hb).more hb.size, h.p⟩
theorem VecIn.less {P P' : Nat → Prop} {W : World} {A : Option Addr} {zs : List Int} (h : VecIn P W A zs) (hp : ∀ k, P k → P' k) : VecIn P' W A zs := ⟨h.v, fun b o m e hn => hp b (h.p b o m e hn)⟩
theorem VecIn.nil {P : Nat → Prop} {W : World} {A : Option Addr} : VecIn P W A [] := ⟨VecB.nil, fun _ _ _ _ h => absurd rfl h⟩
theorem Stay.refl {P : Nat → Prop} {W : World} : Stay P W W := ⟨fun _ _ => rfl, Nat.le_refl _⟩
theorem Stay.trans {P : Nat → Prop} {A B C : World} (h : Stay P A B) (k : Stay P B C) : Stay P A C := ⟨fun b hb => (k.blk b hb).trans (h.blk b hb), Nat.le_trans h.size k.size⟩
theorem Stay.less {P P' : Nat → Prop} {A B : World} (h : Stay P A B) (hp : ∀ k, P' k → P k) : Stay P' A B := ⟨fun b hb => h.blk b (hp b hb), h.size⟩
theorem Stay.below {P : Nat → Prop} {A B : World} (h : Below A.heap.size A B) (hp : ∀ k, P k → k < A.heap.size) : Stay P A B := ⟨fun b hb => h.block b (hp b hb), h.size⟩

/-- Heaps side by side, told in another order. -/
theorem Fam.turn {P : Nat → Prop} {X W : World} {s1 s2 : List HSp} (h : Fam P X W (s1 ++ s2)) : Fam P X W (s2 ++ s1) := by
  obtain ⟨F, h⟩ := h
  have hin : ∀ i, i < (s2 ++ s1).length → (if i < s2.length then s1.length + i else i - s2.length) < (s1 ++ s2).length := fun i hi => by
    rw [List.length_append] at *
    split <;> omega
  refine ⟨fun i => F (if i < s2.length then s1.length + i else i - s2.length), ?_, ?_, ?_, h.hb, h.pl, ?_⟩
  · intro i s hi
    by_cases e : i < s2.length
    · rw [if_pos e]
      refine h.at_ _ s ?_
      rw [List.getElem?_append_left e] at hi
      rw [List.getElem?_append_right (by omega), show s1.length + i - s1.length = i by omega]
      exact hi
    · rw [if_neg e]
      refine h.at_ _ s ?_
      rw [List.getElem?_append_right (by omega)] at hi
      have := idx_lt hi
      rw [List.getElem?_append_left this]
      exact hi
  · intro i j k hi hj hne
    refine h.apart _ _ k (hin i hi) (hin j hj) ?_
    rw [List.length_append] at hi hj
    split <;> split <;> omega
  · intro i k hi
    exact h.low _ k (hin i hi)
  · intro i k hi
    exact h.pf _ k (hin i hi)

/-- A probe: at bp, its set at bm, its queue at bq, its best list at bl; K what it knows, L what waits, O what was offered to the best list. -/
structure PrbW (rs : List HSp) (P : Nat → Prop) (X W : World) (bp bm bq bl : Nat) (Q : Option Addr) (q : List Int) (cq : Nat) (mask : Int) (m nK : Nat) (K : List Int) (L O : List SpotT) : Prop where
  fam : Fam (fun k => P k ∨ k = bm ∨ k = bp) X W (⟨bq, none, L⟩ :: ⟨bl, some m, O⟩ :: rs)
  own : W.ownsMap Try.prog 3 unitElem bm nK (setK K)
  c0 : W.cell? ⟨bp, 0, none⟩ = some (.slice Q q.length cq)
  c1 : W.cell? ⟨bp, 1, none⟩ = some (.int .u64 mask)
  c2 : W.cell? ⟨bp, 2, none⟩ = some (.map (some bm))
  c3 : W.cell? ⟨bp, 3, none⟩ = some (.pointer (some ⟨bq, 0, none⟩))
  c4 : W.cell? ⟨bp, 4, none⟩ = some (.pointer (some ⟨bl, 0, none⟩))
  vec : VecIn P W Q q
  pl : ∀ k, P k → k < W.heap.size
  lp : bp < W.heap.size
  lm : X.heap.size ≤ bm
  pm : ¬ P bm
  ne : bp ≠ bm
section
variable {rs : List HSp} {P : Nat → Prop} {X W W' : World} {bp bm bq bl : Nat} {Q : Option Addr} {q : List Int} {cq : Nat} {mask : Int} {m nK : Nat} {K : List Int} {L O : List SpotT}
theorem PrbW.later (h : PrbW rs P X W bp bm bq bl Q q cq mask m nK K L O) (hb : Below W.heap.size W W') : PrbW rs P X W' bp bm bq bl Q q cq mask m nK K L O :=
  ⟨h.fam.later hb, by
      obtain ⟨es, clock, e1, e2⟩ := h.own
      exact ⟨es, clock, (hb.block bm h.own.lt).trans e1, e2⟩,
    (hb.cell (p := ⟨bp, 0, none⟩) h.lp).trans h.c0, (hb.cell (p := ⟨bp, 1, none⟩) h.lp).trans h.c1, (hb.cell (p := ⟨bp, 2, none⟩) h.lp).trans h.c2, (hb.cell (p := ⟨bp, 3, none⟩) h.lp).trans h.c3, (hb.cell (p := ⟨bp, 4, none⟩) h.lp).trans h.c4,
    h.vec.below hb, fun k hk => Nat.lt_of_lt_of_le (h.pl k hk) hb.size, Nat.lt_of_lt_of_le h.lp hb.size, h.lm, h.pm, h.ne⟩
theorem PrbW.below (h : PrbW rs P X W bp bm bq bl Q q cq mask m nK K L O) : Below X.heap.size X W := h.fam.below
theorem PrbW.stay (h : PrbW rs P X W bp bm bq bl Q q cq mask m nK K L O) (hb : Below W.heap.size W W') : Stay P W W' := Stay.below hb h.pl
/-- What lies anew joins what stays. -/
theorem PrbW.adds (h : PrbW rs P X W bp bm bq bl Q q cq mask m nK K L O) (hb : Below W.heap.size W W') : PrbW rs (fun k => P k ∨ (W.heap.size ≤ k ∧ k < W'.heap.size)) X W' bp bm bq bl Q q cq mask m nK K L O := by
  have t := h.later hb
  have hm := h.own.lt
  refine { t with fam := (h.fam.adds hb).less ?_, vec := t.vec.less (fun _ hk => .inl hk), pl := ?_, pm := ?_ }
  · rintro k ((hk | hk) | hk)
    · exact .inl (.inl hk)
    · exact .inr hk
    · exact .inl (.inr hk)
  · rintro k (hk | hk)
    · exact t.pl k hk
    · exact hk.2
  · rintro (hk | hk)
    · exact h.pm hk
    · omega
theorem PrbW.less {P' : Nat → Prop} (h : PrbW rs P X W bp bm bq bl Q q cq mask m nK K L O) (hp : ∀ k, P' k → P k) (hv : VecIn P' W Q q) : PrbW rs P' X W bp bm bq bl Q q cq mask m nK K L O :=
  { h with fam := h.fam.less (fun k hk => hk.imp (hp k) id), vec := hv, pl := fun k hk => h.pl k (hp k hk), pm := fun hk => h.pm (hp _ hk) }
/-- A row of what stays grows. -/
theorem PrbW.grown {row : Option Nat} (h : PrbW rs P X W bp bm bq bl Q q cq mask m nK K L O) (hg : W.grownBy W' row) (hr : ∀ k, row = some k → P k ∧ X.heap.size ≤ k ∧ k ≠ bp) (hv : VecIn P W' Q q) : PrbW rs (fun k => P k ∨ (W.heap.size ≤ k ∧ k < W'.heap.size)) X W' bp bm bq bl Q q cq mask m nK K L O := by
  have hm := h.own.lt
  have hbp : W'.heap[bp]? = W.heap[bp]? := hg.block bp h.lp (fun e => (hr bp e.symm).2.2 rfl)
  have c := fun i => World.cell?_of_block (w := W) (w' := W') (a := ⟨bp, i, none⟩) hbp
  refine ⟨(h.fam.grown hg (fun k e => ⟨.inl (hr k e).1, (hr k e).2.1⟩)).less ?_, h.own.kept hg (fun e => h.pm (hr bm e.symm).1), (c 0).trans h.c0, (c 1).trans h.c1, (c 2).trans h.c2, (c 3).trans h.c3, (c 4).trans h.c4, hv.less (fun _ hk => .inl hk), ?_, Nat.lt_of_lt_of_le h.lp hg.size, h.lm, ?_, h.ne⟩
  · rintro k ((hk | hk) | hk)
    · exact .inl (.inl hk)
    · exact .inr hk
    · exact .inl (.inr hk)
  · rintro k (hk | hk)
    · exact Nat.lt_of_lt_of_le (h.pl k hk) hg.size
    · exact hk.2
  · rintro (hk | hk)
    · exact h.pm hk
    · omega
/-- A slot is stored into the set. -/
theorem PrbW.stored {s : Int} (h : PrbW rs P X W bp bm bq bl Q q cq mask m nK K L O) (hg : W.grownBy W' (some bm)) (ho : W'.ownsMap Try.prog 3 unitElem bm (nK + 1) ((setK K).put (Lit.int .i64 s) (.agg []))) : PrbW rs P X W' bp bm bq bl Q q cq mask m (nK + 1) (K ++ [s]) L O ∧ Stay P W W' := by
  have hbp : W'.heap[bp]? = W.heap[bp]? := hg.block bp h.lp (fun e => by injection e with e; exact h.ne e)
  have c := fun i => World.cell?_of_block (w := W) (w' := W') (a := ⟨bp, i, none⟩) hbp
  have hs : Stay P W W' := ⟨fun b hb => hg.block b (h.pl b hb) (fun e => by injection e with e; subst e; exact h.pm hb), hg.size⟩
  refine ⟨⟨(h.fam.grown hg (fun k e => by injection e with e; subst e; exact ⟨.inr (.inl rfl), h.lm⟩)).less (fun _ hk => .inl hk), by rw [setK_snoc]; exact ho, (c 0).trans h.c0, (c 1).trans h.c1, (c 2).trans h.c2, (c 3).trans h.c3, (c 4).trans h.c4, h.vec.stay hs, fun k hk => Nat.lt_of_lt_of_le (h.pl k hk) hg.size, Nat.lt_of_lt_of_le h.lp hg.size, h.lm, h.pm, h.ne⟩, hs⟩
/-- A call on one of its heaps. -/
theorem PrbW.heaps {L' O' : List SpotT} (h : PrbW rs P X W bp bm bq bl Q q cq mask m nK K L O) (hf : Fam (fun k => P k ∨ k = bm ∨ k = bp) X W' (⟨bq, none, L'⟩ :: ⟨bl, some m, O'⟩ :: rs)) (hs : Stay (fun k => P k ∨ k = bm ∨ k = bp) W W') : PrbW rs P X W' bp bm bq bl Q q cq mask m nK K L' O' ∧ Stay P W W' := by
  have c := fun i => World.cell?_of_block (w := W) (w' := W') (a := ⟨bp, i, none⟩) (hs.blk bp (.inr (.inr rfl)))
  have hs' : Stay P W W' := hs.less (fun _ hk => .inl hk)
  refine ⟨⟨hf, ?_, (c 0).trans h.c0, (c 1).trans h.c1, (c 2).trans h.c2, (c 3).trans h.c3, (c 4).trans h.c4, h.vec.stay hs', fun k hk => Nat.lt_of_lt_of_le (h.pl k hk) hs.size, Nat.lt_of_lt_of_le h.lp hs.size, h.lm, h.pm, h.ne⟩, hs'⟩
  obtain ⟨es, clock, e1, e2⟩ := h.own
  exact ⟨es, clock, (hs.blk bm (.inr (.inl rfl))).trans e1, e2⟩
/-- Another probe's heaps come ahead: a probe that stood still all the while is told anew. -/
theorem PrbW.again {rs' ss : List HSp} {R P' : Nat → Prop} {W0 : World} (h : PrbW rs P X W0 bp bm bq bl Q q cq mask m nK K L O) (hf : Fam R X W' (ss ++ (⟨bq, none, L⟩ :: ⟨bl, some m, O⟩ :: rs'))) (hs : ∀ k, (k = bp ∨ k = bm) → W'.heap[k]? = W0.heap[k]?) (hR : ∀ k, (P' k ∨ k = bm ∨ k = bp) → R k) (hv : VecIn P' W' Q q) (hpl : ∀ k, P' k → k < W'.heap.size) (hsz : W0.heap.size ≤ W'.heap.size) (hpm : ¬ P' bm) : PrbW (rs' ++ ss) P' X W' bp bm bq bl Q q cq mask m nK K L O := by
  have c := fun i => World.cell?_of_block (w := W0) (w' := W') (a := ⟨bp, i, none⟩) (hs bp (.inl rfl))
  refine ⟨hf.turn.less hR, ?_, (c 0).trans h.c0, (c 1).trans h.c1, (c 2).trans h.c2, (c 3).trans h.c3, (c 4).trans h.c4, hv, hpl, Nat.lt_of_lt_of_le h.lp hsz, h.lm, hpm, h.ne⟩
  obtain ⟨es, clock, e1, e2⟩ := h.own
  exact ⟨es, clock, (hs bm (.inr rfl)).trans e1, e2⟩
end


theorem info_i32 : (Try.prog.info? 21).map (fun i => (i.zero, i.size, i.bytes)) = some (some (.int .i32 0), 1, 4) := by kernel_rfl
theorem Rd32.news {w : World} {B : Nat} {ad : Addr} {zs : List Int} (h : Rd (Value.int .i32) w B (some ad) zs) : ∀ j u, (zs.map (Value.int .i32))[j]? = some u → w.cell? (ad.add j) = some u := by
  intro j u hj
  rw [List.getElem?_map] at hj
  cases hz : zs[j]? with
  | none => rw [hz] at hj; cases hj
  | some z =>
    rw [hz] at hj
    injection hj with hj
    subst hj
    obtain ⟨b, off, he, _, hc⟩ := h j z hz
    injection he with he
    subst he
    rw [show Addr.add ⟨b, off, none⟩ j = ⟨b, off + j, none⟩ from by simp [Addr.add]]
    exact hc
theorem i32_one {zs : List Int} : ∀ u ∈ zs.map (Value.int .i32), u.oneCell' = true := by
  intro u hu
  obtain ⟨x, _, rfl⟩ := List.mem_map.1 hu
  rfl
/-- A vector of the call's own. -/
theorem vec_own {w : World} {base c : Nat} {A : Option Addr} {zs : List Int} (h : w.ownsRow base 21 1 (.slice A zs.length c) zs.length (zs.map (Value.int .i32))) : Rd (Value.int .i32) w w.heap.size A zs := by
  intro k z hz
  obtain ⟨hk, rfl⟩ := List.getElem?_eq_some_iff.1 hz
  obtain ⟨g, rfl, hg, hgw⟩ := ownPos h (by omega)
  refine ⟨g, 0, rfl, hgw, ?_⟩
  rw [Nat.zero_add, h.cellAt k (by omega), List.getElem?_map, List.getElem?_eq_getElem hk]
  rfl

set_option maxHeartbeats 2000000 in
theorem CloneV_any (A : Option Addr) (zs : List Int) (c : Nat) (w : World) (hA : VecB w w.heap.size A zs) (hl : zs.length * 4 ≤ 140737488351232) :
    Calls Try.prog 71 #[.slice A zs.length c] w fun e w' => ∃ A' c', e = .returned (.slice A' zs.length c') ∧ VecB w' w'.heap.size A' zs ∧ Below w.heap.size w w' ∧ (∀ b o mm, A' = some ⟨b, o, mm⟩ → zs ≠ [] → w.heap.size ≤ b ∧ b < w'.heap.size) := by
  obtain ⟨i0, hi0, hz0, hz1, hz2⟩ := info_parts info_i32
  cases A with
  | none =>
    have hn := hA.rd.none_nil
    subst hn
    have q : ∀ (w : World) (a : Option Addr) (n c n' c' : Nat), (binOp .eql 23 (.slice a n c) (.slice none n' c')).run Try.prog w = .ok (.bool a.isNone) w := fun w a n c n' c' => Lib.run_eql_slice_nil w _ _ a n c n' c' Try.underlying23
    go_enter Try.func71, Try.ntmps71
    go_wp2
    go_ret
    exact ⟨none, 0, rfl, VecB.nil, Below.refl _ _, fun _ _ _ e _ => by cases e⟩
  | some ad =>
    have q : ∀ (w : World) (a : Option Addr) (n c n' c' : Nat), (binOp .eql 23 (.slice a n c) (.slice none n' c')).run Try.prog w = .ok (.bool a.isNone) w := fun w a n c n' c' => Lib.run_eql_slice_nil w _ _ a n c n' c' Try.underlying23
    have hb0 : ∀ o, Below w.heap.size w (w.alloc o) := fun o => (Below.refl _ w).alloc (Nat.le_refl _) o
    have hall := hA.all
    have hlen := hA.len
    have hrd := hA.rd
    clear hA
    go_enter Try.func71, Try.ntmps71
    go_wp2_with (at_builtin; refine wpList_append_own _ rfl _ _ 23 rfl w.heap.size 21 i0 (.int .i32 0) 1 4 Try.underlying23 hi0 hz0 hz1 hz2 rfl (by decide) _ _ _ rfl (World.ownsRow_made w #[] 0 (Nat.le_refl _) (Nat.zero_le _) rfl) ad zs.length c (zs.map (Value.int .i32)) rfl ?c1 ?c2 i32_one ?c3 ?c4 ?c5 ?_)
    case c1 => simp
    case c2 => exact Rd32.news ((hrd.below (hb0 _)).more (B' := w.heap.size) (Nat.le_refl _))
    case c3 => unfold maxLen; omega
    case c4 => omega
    case c5 => simp
    intro v' w1 hown hgrow _
    have hown2 : w1.ownsRow w.heap.size 21 1 v' zs.length (zs.map (Value.int .i32)) := by simpa using hown
    have hB : Below w.heap.size w w1 := (hb0 _).grown hgrow (by simp) (by intro k hk; simp [Value.ownBlock] at hk; omega)
    obtain ⟨A', c', rfl, _, _⟩ := ownSlice hown2
    have HV : Hid (VecB w1 w1.heap.size A' zs) := ⟨vec_own hown2, hlen, hall⟩
    have HN : Hid (∀ b o mm, A' = some ⟨b, o, mm⟩ → zs ≠ [] → w.heap.size ≤ b ∧ b < w1.heap.size) := Lib.hid fun b o mm e hn => by
      obtain ⟨g, e2, h1, h2⟩ := ownPos hown2 (List.length_pos_iff.2 hn)
      rw [e2] at e
      injection e with e
      injection e with e
      omega
    clear hown hgrow q hb0 hown2 hrd
    go_wp2
    go_ret
    exact ⟨A', c', rfl, HV.out, hB, HN.out⟩

/-- A new probe. -/
def NewP (rs : List HSp) (P : Nat → Prop) (X W : World) (q : List Int) (mask : Int) (m : Nat) (e : Ending) (W' : World) : Prop :=
  ∃ V bp bm bq bl Q cq, e = .returned (.pointer (some ⟨bp, 0, none⟩)) ∧ Below W.heap.size W V ∧ Below W.heap.size W W' ∧ PrbW rs (fun k => P k ∨ (W.heap.size ≤ k ∧ k < V.heap.size)) X W' bp bm bq bl Q q cq mask m 0 [] [] []
theorem mapmade (W : World) : (W.alloc (.map #[] 0)).ownsMap Try.prog 3 unitElem W.heap.size 0 (setK []) := World.ownsMap_made _ _ _ _
theorem Fam.pl {P : Nat → Prop} {X W : World} {ss : List HSp} (h : Fam P X W ss) : ∀ k, P k → k < W.heap.size := by
  obtain ⟨F, h⟩ := h
  exact h.pl

set_option maxRecDepth 100000 in
set_option maxHeartbeats 2000000 in
theorem pNew_any {rs : List HSp} {P : Nat → Prop} {X0 W : World} (hF : Fam P X0 W rs) (A : Option Addr) (q : List Int) (c : Nat) (mask most : Int) (hA : VecB W W.heap.size A q) (hl : q.length * 4 ≤ 140737488351232) :
    Calls Try.prog 24 #[.slice A q.length c, .int .u64 mask, .int .i64 most] W (NewP rs P X0 W q mask (bestN most)) := by
  have hmm := @run_makeMap Try.prog
  have hX0 := hF.below.size
  go_enter Try.func24, Try.ntmps24
  go_wp2_with fail
  refine (CloneV_any A q c W hA hl).mono ?_
  rintro e X ⟨Q, cq, rfl, hV, hbX, hQN⟩
  have HQN := Lib.hid hQN
  have HPX : Hid (∀ k, (P k ∨ (W.heap.size ≤ k ∧ k < X.heap.size)) → k < X.heap.size) := Lib.hid fun k hk => hk.elim (fun h => Nat.lt_of_lt_of_le (hF.pl k h) hbX.size) (fun h => h.2)
  have hbm := below_new3 X (.map #[] 0)
  have hsz : (X.alloc (.map #[] 0)).heap.size = X.heap.size + 1 := by simp
  have F0 := (hF.adds hbX).adds hbm
  have O0 := mapmade X
  have HV := Lib.hid hV
  have HBX := Lib.hid hbX
  clear hA hV hbX hQN hF
  go_wp2_with fail
  generalize X.alloc (.map #[] 0) = W1 at *
  refine (qNew_any W1).mono ?_
  rintro e W2 ⟨bq, rfl, q1, q2, q3⟩
  have F1 := F0.newQ q1 q2 q3
  have O1 : W2.ownsMap Try.prog 3 unitElem X.heap.size 0 (setK []) := by
    obtain ⟨es, clock, e1, e2⟩ := O0
    exact ⟨es, clock, (q3.block _ (by omega)).trans e1, e2⟩
  have hb2 := hbm.trans (q3.mono hbm.size)
  clear q1 q2 q3 F0 O0 hbm
  go_wp2_with fail
  refine (bNew_any most W2).mono ?_
  rintro e W3 ⟨bl, rfl, r1, r2, r3, r4⟩
  have F2 := F1.newB r1 r2 r3 r4
  have O2 : W3.ownsMap Try.prog 3 unitElem X.heap.size 0 (setK []) := by
    have l1 := O1.lt
    obtain ⟨es, clock, e1, e2⟩ := O1
    exact ⟨es, clock, (r4.block _ l1).trans e1, e2⟩
  have hb3 := hb2.trans (r4.mono hb2.size)
  clear r1 r2 r3 r4 F1 O1 hb2
  rw [List.append_assoc] at F2
  have HF := Lib.hid F2.turn
  have HO := Lib.hid O2
  have HB3 := Lib.hid hb3
  clear F2 O2 hb3
  go_wp2
  go_ret
  have hb4 := HB3.out.trans ((below_new3 W3 (.cells #[.slice Q q.length cq, .int .u64 mask, .map (some X.heap.size), .pointer (some ⟨bq, 0, none⟩), .pointer (some ⟨bl, 0, none⟩)] 116)).mono HB3.out.size)
  have hbs := HBX.out.size
  have hb5 := HB3.out.size
  refine ⟨X, W3.heap.size, X.heap.size, bq, bl, Q, cq, rfl, HBX.out, HBX.out.trans (hb4.mono HBX.out.size), ⟨(HF.out.adds (below_new3 W3 _)).less ?_, HO.out.alloc _, by go_cell, by go_cell, by go_cell, by go_cell, by go_cell, ⟨(HV.out.below hb4).more hb4.size, fun b o mm e hn => .inr (HQN.out b o mm e hn)⟩, ?_, by simp, by omega, ?_, ?_⟩⟩
  · rintro k (hk | rfl | rfl)
    · exact .inl (.inl hk)
    · exact .inl (.inr ⟨Nat.le_refl _, by omega⟩)
    · exact .inr ⟨Nat.le_refl _, by simp⟩
  · intro k hk
    have := HPX.out k hk
    simp
    omega
  · intro hk
    have := HPX.out _ hk
    omega
  · have := HO.out.lt
    omega

set_option maxHeartbeats 1000000 in
theorem pKnows_any {rs : List HSp} {P : Nat → Prop} {X W : World} {bp bm bq bl : Nat} {Q : Option Addr} {q : List Int} {cq : Nat} {mask : Int} {m nK : Nat} {K : List Int} {L O : List SpotT} (h : PrbW rs P X W bp bm bq bl Q q cq mask m nK K L O) (s : Int) (hs : -9223372036854775808 ≤ s ∧ s ≤ 9223372036854775807) :
    Calls Try.prog 29 #[.pointer (some ⟨bp, 0, none⟩), .int .i64 s] W fun e W' => e = .returned (.bool (K.contains s)) ∧ Below W.heap.size W W' := by
  have hkey : keyOf Try.prog 3 (.int .i64 s) = some (.int .i64 s) := keyOf_int_mk Try.underlying3 (wfI hs)
  have c2 := h.c2
  have hown := h.own
  rw [← has_setK]
  clear h hs
  go_enter Try.func29, Try.ntmps29
  go_wp2_with (first
    | (at_lookup; refine wpList_lookup_own_unit _ rfl _ _ 110 rfl 3 123 lawI Try.underlying110 (zeroU _) bm nK _ rfl hown _ _ rfl hkey ?_)
    | go_in)
  go_ret
  exact ⟨rfl, (Below.refl _ _).alloc (Nat.le_refl _) _⟩

theorem pKnows_val {rs : List HSp} {P : Nat → Prop} {X W : World} {bp bm bq bl : Nat} {Q : Option Addr} {q : List Int} {cq : Nat} {mask : Int} {m nK : Nat} {K : List Int} {L O : List SpotT} (h : PrbW rs P X W bp bm bq bl Q q cq mask m nK K L O) (s : Int) (hs : -9223372036854775808 ≤ s ∧ s ≤ 9223372036854775807) (b : Bool) (hb : K.contains s = b) :
    Calls Try.prog 29 #[.pointer (some ⟨bp, 0, none⟩), .int .i64 s] W fun e W' => e = .returned (.bool b) ∧ Below W.heap.size W W' := hb ▸ pKnows_any h s hs
theorem pWaits_any {rs : List HSp} {P : Nat → Prop} {X W : World} {bp bm bq bl : Nat} {Q : Option Addr} {q : List Int} {cq : Nat} {mask : Int} {m nK : Nat} {K : List Int} {L O : List SpotT} (h : PrbW rs P X W bp bm bq bl Q q cq mask m nK K L O) :
    Calls Try.prog 30 #[.pointer (some ⟨bp, 0, none⟩)] W fun e W' => e = .returned (.int .i64 L.length) ∧ W = W' := by
  have c3 := h.c3
  have hc := h.fam.len (i := 0) rfl
  clear h
  go_enter Try.func30, Try.ntmps30
  go_wp2_with fail
  refine hc.mono ?_
  rintro e W' ⟨rfl, rfl⟩
  go_wp2
  go_ret
  exact ⟨rfl, rfl⟩
theorem pFound_any {rs : List HSp} {P : Nat → Prop} {X W : World} {bp bm bq bl : Nat} {Q : Option Addr} {q : List Int} {cq : Nat} {mask : Int} {m nK : Nat} {K : List Int} {L O : List SpotT} (h : PrbW rs P X W bp bm bq bl Q q cq mask m nK K L O) (hn : O.length ≤ 100000) :
    Calls Try.prog 32 #[.pointer (some ⟨bp, 0, none⟩)] W (SpotsOut (keepS m O) W) := by
  have c4 := h.c4
  have hc := Lib.hid (h.fam.list (i := 1) rfl hn)
  clear h
  go_enter Try.func32, Try.ntmps32
  go_wp2_with fail
  refine hc.out.mono ?_
  rintro e W' ⟨A, c, rfl, h1, h2, h3, h4⟩
  go_wp2
  go_ret
  exact ⟨A, c, rfl, h1, h2, h3, h4⟩

theorem pKnows_nil (s : Int) (W : World) : Calls Try.prog 29 #[.pointer none, .int .i64 s] W fun e W' => e = .returned (.bool false) ∧ W = W' := by
  go_enter Try.func29, Try.ntmps29
  go_wp2
  go_ret
  exact ⟨rfl, rfl⟩
theorem pWaits_nil (W : World) : Calls Try.prog 30 #[.pointer none] W fun e W' => e = .returned (.int .i64 0) ∧ W = W' := by
  go_enter Try.func30, Try.ntmps30
  go_wp2
  go_ret
  exact ⟨rfl, rfl⟩
theorem pFound_nil (W : World) : Calls Try.prog 32 #[.pointer none] W fun e W' => e = .returned (.slice none 0 0) ∧ W = W' := by
  go_enter Try.func32, Try.ntmps32
  go_wp2
  go_ret
  exact ⟨rfl, rfl⟩
theorem pWant_nil (W : World) : Calls Try.prog 26 #[.pointer none] W fun e W' => e = .returned (.tuple #[.int .i64 0, .bool false]) ∧ W = W' := by
  go_enter Try.func26, Try.ntmps26
  go_wp2
  go_ret2
  exact ⟨rfl, rfl⟩
theorem pOffer_nil (s : Int) (z : ItT) (W : World) : Calls Try.prog 28 #[.pointer none, .int .i64 s, itV z] W fun e W' => e = .returned (.bool false) ∧ Below W.heap.size W W' := by
  unfold itV
  go_enter Try.func28, Try.ntmps28
  go_wp2
  go_ret
  exact ⟨rfl, by go_grown⟩


/-- The last of a best list; a zero spot, if it has none. -/
def lastS (m : Nat) (O : List SpotT) : SpotT := if 0 < (keepS m O).length then spAt (keepS m O) ((keepS m O).length - 1) else ((0, 0), 0)
/-- Is one worth it? -/
def hopeB (m : Nat) (L O : List SpotT) : Bool := decide (0 < L.length) && (!decide (m ≤ (keepS m O).length) || (decide (0 < (keepS m O).length) && !ltS (lastS m O) (spAt (sortS L) 0)))
theorem Spot_val (x y : SpotT) (W : World) (b : Bool) (h : ltS x y = b) :
    Calls Try.prog 55 #[.agg #[.int .u64 x.1.1, .int .u64 x.1.2, .int .i64 x.2], .agg #[.int .u64 y.1.1, .int .u64 y.1.2, .int .i64 y.2]] W fun e w' => e = .returned (.bool b) ∧ Grown W w' := h ▸ Spot_any x y W

set_option maxRecDepth 100000 in
set_option maxHeartbeats 2000000 in
theorem pHopes_any {rs : List HSp} {P : Nat → Prop} {X W : World} {bp bm bq bl : Nat} {Q : Option Addr} {q : List Int} {cq : Nat} {mask : Int} {m nK : Nat} {K : List Int} {L O : List SpotT} (h : PrbW rs P X W bp bm bq bl Q q cq mask m nK K L O) :
    Calls Try.prog 76 #[.pointer (some ⟨bp, 0, none⟩)] W fun e W' => e = .returned (.bool (hopeB m L O)) ∧ Below W.heap.size W W' := by
  obtain ⟨⟨⟨x1, x2⟩, x3⟩, hx⟩ : ∃ x, spAt (sortS L) 0 = x := ⟨_, rfl⟩
  obtain ⟨⟨⟨y1, y2⟩, y3⟩, hy⟩ : ∃ y, lastS m O = y := ⟨_, rfl⟩
  obtain ⟨fl, hfl⟩ : ∃ b, decide (m ≤ (keepS m O).length) = b := ⟨_, rfl⟩
  obtain ⟨fp, hfp⟩ : ∃ b, decide (0 < (keepS m O).length) = b := ⟨_, rfl⟩
  obtain ⟨fL, hfL⟩ : ∃ b, decide (0 < L.length) = b := ⟨_, rfl⟩
  obtain ⟨r, hr⟩ : ∃ r, ltS ((y1, y2), y3) ((x1, x2), x3) = r := ⟨_, rfl⟩
  have HB : Hid (hopeB m L O = (fL && (!fl || (fp && !r)))) := by rw [Hid, hopeB, hfL, hfl, hfp, hx, hy, hr]
  have hp := h.fam.peek (i := 0) rfl hx
  rw [hfL] at hp
  have HP := Lib.hid hp
  have HF : Hid (∀ W', Below W.heap.size W W' → Calls Try.prog 118 #[.pointer (some ⟨bl, 0, none⟩)] W' fun e W'' => e = .returned (.bool fl) ∧ ∃ q, W'' = W'.drewN q) := Lib.hid fun W' hb => by
    have := (h.later hb).fam.full (i := 1) rfl
    rw [hfl] at this
    exact this
  have HW : Hid (∀ W', Below W.heap.size W W' → Calls Try.prog 119 #[.pointer (some ⟨bl, 0, none⟩)] W' fun e W'' => e = .returned (.tuple #[.agg #[.int .u64 y1, .int .u64 y2, .int .i64 y3], .bool fp]) ∧ Below W'.heap.size W' W'') := Lib.hid fun W' hb => by
    have := (h.later hb).fam.worst (i := 1) rfl hy
    rw [hfp] at this
    exact this
  have HC3 := Lib.hid (fun W' (hb : Below W.heap.size W W') => (h.later hb).c4)
  have c3 := h.c3
  clear h hx hy hfl hfp hfL hp
  go_enter Try.func76, Try.ntmps76
  go_wp2_with fail
  refine HP.out.mono ?_
  rintro e W1 ⟨rfl, hb1⟩
  have hbA := hb1.alloc hb1.size (.cells #[.int .u64 x1, .int .u64 x2, .int .i64 x3] 62)
  have d4 := HC3.out _ hbA
  have HFA := Lib.hid (HF.out _ hbA)
  have HBA := Lib.hid hbA
  have e0 : (W1.alloc (.cells #[.int .u64 x1, .int .u64 x2, .int .i64 x3] 62)).cell? ⟨W1.heap.size, 0, none⟩ = some (.int .u64 x1) := by go_cell
  have e1 : (W1.alloc (.cells #[.int .u64 x1, .int .u64 x2, .int .i64 x3] 62)).cell? ⟨W1.heap.size, 1, none⟩ = some (.int .u64 x2) := by go_cell
  have e2 : (W1.alloc (.cells #[.int .u64 x1, .int .u64 x2, .int .i64 x3] 62)).cell? ⟨W1.heap.size, 2, none⟩ = some (.int .i64 x3) := by go_cell
  have hlt : W1.heap.size < (W1.alloc (.cells #[.int .u64 x1, .int .u64 x2, .int .i64 x3] 62)).heap.size := by simp
  clear hb1 hbA HP HF
  cases fL
  · have HBF : Hid (hopeB m L O = false) := HB.out
    go_wp2
    go_ret
    exact ⟨by rw [HBF.out]; rfl, HBA.out⟩
  go_wp2_with fail
  generalize hX : W1.alloc (.cells #[.int .u64 x1, .int .u64 x2, .int .i64 x3] 62) = Y at *
  generalize W1.heap.size = D at *
  refine HFA.out.mono ?_
  rintro e W2 ⟨rfl, qn, rfl⟩
  have hd := below_draws Y qn Y.heap.size
  have HB2 := Lib.hid (HBA.out.trans (hd.mono HBA.out.size))
  have HWA := Lib.hid (HW.out _ HB2.out)
  have k4 := HC3.out _ HB2.out
  have j0 := (hd.cell (p := ⟨D, 0, none⟩) hlt).trans e0
  have j1 := (hd.cell (p := ⟨D, 1, none⟩) hlt).trans e1
  have j2 := (hd.cell (p := ⟨D, 2, none⟩) hlt).trans e2
  have hlt2 := Nat.lt_of_lt_of_le hlt hd.size
  clear hd e0 e1 e2 d4 hlt HFA HW HC3 HBA hX
  generalize Y.drewN qn = Z at *
  cases fl
  · have HBF : Hid (hopeB m L O = true) := HB.out
    go_wp2
    go_ret
    exact ⟨by rw [HBF.out]; rfl, HB2.out⟩
  go_wp2_with fail
  refine HWA.out.mono ?_
  rintro e W3 ⟨rfl, hb3⟩
  have i0 := (hb3.cell (p := ⟨D, 0, none⟩) hlt2).trans j0
  have i1 := (hb3.cell (p := ⟨D, 1, none⟩) hlt2).trans j1
  have i2 := (hb3.cell (p := ⟨D, 2, none⟩) hlt2).trans j2
  have hlt3 := Nat.lt_of_lt_of_le hlt2 hb3.size
  have f0 := (World.cell?_alloc_lt W3 (.cells #[.int .u64 y1, .int .u64 y2, .int .i64 y3] 62) ⟨D, 0, none⟩ hlt3).trans i0
  have f1 := (World.cell?_alloc_lt W3 (.cells #[.int .u64 y1, .int .u64 y2, .int .i64 y3] 62) ⟨D, 1, none⟩ hlt3).trans i1
  have f2 := (World.cell?_alloc_lt W3 (.cells #[.int .u64 y1, .int .u64 y2, .int .i64 y3] 62) ⟨D, 2, none⟩ hlt3).trans i2
  have hbA := (HB2.out.trans (hb3.mono HB2.out.size)).alloc (Nat.le_trans HB2.out.size hb3.size) (.cells #[.int .u64 y1, .int .u64 y2, .int .i64 y3] 62)
  have HBA := Lib.hid hbA
  clear hbA hb3 i0 i1 i2 j0 j1 j2 HWA HB2 k4
  cases fp
  · have HBF : Hid (hopeB m L O = false) := HB.out
    go_wp2
    go_ret
    exact ⟨by rw [HBF.out]; rfl, HBA.out⟩
  have HBF : Hid (hopeB m L O = !r) := HB.out
  have HR := Lib.hid hr
  clear hr
  go_wp2_with fail
  refine (Spot_val ((y1, y2), y3) ((x1, x2), x3) _ r HR.out).mono ?_
  rintro e W4 ⟨rfl, hg⟩
  have HB4 := Lib.hid (HBA.out.trans (hg.below.mono HBA.out.size))
  clear hg f0 f1 f2
  go_wp2
  go_ret
  exact ⟨by rw [HBF.out]; rfl, HB4.out⟩

/-- What a probe leaves, that was asked what it wants. -/
def wantL (m : Nat) (L O : List SpotT) : List SpotT := if hopeB m L O = true then (sortS L).tail else L
def wantN (m : Nat) (L O : List SpotT) : Int := if hopeB m L O = true then (spAt (sortS L) 0).2 else 0
set_option maxRecDepth 100000 in
set_option maxHeartbeats 2000000 in
theorem pWant_any {rs : List HSp} {P : Nat → Prop} {X W : World} {bp bm bq bl : Nat} {Q : Option Addr} {q : List Int} {cq : Nat} {mask : Int} {m nK : Nat} {K : List Int} {L O : List SpotT} (h : PrbW rs P X W bp bm bq bl Q q cq mask m nK K L O) (hn : L.length ≤ 100000) (s : Int) (b : Bool) (hb : hopeB m L O = b) (hs : wantN m L O = s) :
    Calls Try.prog 26 #[.pointer (some ⟨bp, 0, none⟩)] W fun e W' => e = .returned (.tuple #[.int .i64 s, .bool b]) ∧ PrbW rs P X W' bp bm bq bl Q q cq mask m nK K (wantL m L O) O ∧ Stay P W W' := by
  have HC := Lib.hid (pHopes_any h)
  rw [hb] at HC
  have HBB := Lib.hid hb
  obtain ⟨⟨⟨x1, x2⟩, x3⟩, hx⟩ : ∃ x, spAt (sortS L) 0 = x := ⟨_, rfl⟩
  have HH := Lib.hid h
  clear h
  cases b
  · have HL : Hid (wantL m L O = L) := by rw [Hid, wantL, hb]; rfl
    have hs0 : s = 0 := by rw [← hs, wantN, hb]; rfl
    subst hs0
    clear hs hb hx
    go_enter Try.func26, Try.ntmps26
    go_wp2_with fail
    refine HC.out.mono ?_
    rintro e W1 ⟨rfl, hb1⟩
    have HH1 := Lib.hid (HH.out.later hb1)
    have HS1 := Lib.hid (HH.out.stay hb1)
    clear hb1
    go_wp2
    go_ret2
    exact ⟨rfl, by rw [HL.out]; exact HH1.out, HS1.out⟩
  · have HL : Hid (wantL m L O = (sortS L).tail) := by rw [Hid, wantL, hb]; rfl
    have hs0 : s = x3 := by rw [← hs, wantN, hb, hx]; rfl
    have hL0 : decide (0 < L.length) = true := by
      unfold hopeB at hb
      rw [Bool.and_eq_true] at hb
      exact hb.1
    subst hs0
    have HP : Hid (∀ W', Below W.heap.size W W' → Calls Try.prog 77 #[.pointer (some ⟨bq, 0, none⟩)] W' fun e W'' => e = .returned (.tuple #[.agg #[.int .u64 x1, .int .u64 x2, .int .i64 s], .bool true]) ∧ PrbW rs P X W'' bp bm bq bl Q q cq mask m nK K (sortS L).tail O ∧ Stay P W W'') := Lib.hid fun W' hb => by
      have hp := (HH.out.later hb).fam.pop (i := 0) rfl hn hx
      rw [hL0] at hp
      refine hp.mono ?_
      rintro e W'' ⟨he, hf, hst⟩
      obtain ⟨h1, h2⟩ := (HH.out.later hb).heaps (L' := (sortS L).tail) (O' := O) hf hst
      exact ⟨he, h1, (HH.out.stay hb).trans h2⟩
    have HC3 := Lib.hid (fun W' (hb : Below W.heap.size W W') => (HH.out.later hb).c3)
    clear hs hb hx hn hL0
    go_enter Try.func26, Try.ntmps26
    go_wp2_with fail
    refine HC.out.mono ?_
    rintro e W1 ⟨rfl, hb1⟩
    have k3 := HC3.out _ hb1
    have HPA := Lib.hid (HP.out _ hb1)
    clear hb1
    go_wp2_with fail
    refine HPA.out.mono ?_
    rintro e W2 ⟨rfl, hw2, hs2⟩
    have HW2 := Lib.hid (hw2.later (below_new3 W2 (.cells #[.int .u64 x1, .int .u64 x2, .int .i64 s] 62)))
    have HS2 := Lib.hid (hs2.trans (hw2.stay (below_new3 W2 (.cells #[.int .u64 x1, .int .u64 x2, .int .i64 s] 62))))
    clear hw2 hs2 k3
    go_wp2
    go_ret2
    exact ⟨rfl, by rw [HL.out]; exact HW2.out, HS2.out⟩

end Go.Proofs.Ytajmnhnepoomjaa
