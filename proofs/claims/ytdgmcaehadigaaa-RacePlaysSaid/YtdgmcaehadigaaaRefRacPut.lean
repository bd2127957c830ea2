/- The document's watch (ganglionref18), by contract: put. -/
import Derived.Test.YtdgmcaehadigaaaRefRac
import Derived.Deep.AppendLies
namespace Go.Proofs.Ytdgmcaehadigaaa
open Go.RowKit

theorem info_sync : (Try.prog.info? 178).map (fun i => (i.zero, i.size, i.bytes)) = some (some (.agg #[.int .i64 0, .slice none 0 0]), 2, 32) := by kernel_rfl
/-- All clocks are slices. -/
def Sls (L : List SyT) : Prop := ∀ p ∈ L, ∃ A n c, p.2.1 = .slice A n c
theorem cellsS_one {L : List SyT} (h : Sls L) : ∀ u ∈ cellsS L, u.oneCell' = true := by
  intro u hu
  obtain ⟨p, hp, hq⟩ := List.mem_flatMap.1 hu
  obtain ⟨A, n, c, e⟩ := h p hp
  simp only [List.mem_cons, List.not_mem_nil, or_false] at hq
  rcases hq with rfl | rfl
  · rfl
  · rw [e]; rfl
set_option maxRecDepth 100000 in
/-- A list of clocks is copied behind an empty one of the call's own. -/
theorem appS1 {S : Nat → Prop} {X : World} {b l c3 : Nat} {A3 : Option Addr} {lb : List SyT} (hb : X.heap[b]? = some (.cells #[] 178 (0, 0))) (hA : RdG S X A3 (cellsS lb)) (hs : Sls lb) (hl : lb.length = l) (hf : l ≤ 100000) :
    ∃ g c X', (∀ ty, (Builtin.append_ #[26, 26] ty #[.slice (some ⟨b, 0, none⟩) 0 0, .slice A3 l c3]).run Try.prog X = .ok (.slice (some ⟨g, 0, none⟩) l c) X') ∧ X'.ownsRow b 178 2 (.slice (some ⟨g, 0, none⟩) l c) l (cellsS lb) ∧ X.grownBy X' (some b) := by
  obtain ⟨i0, hi0, hz0, hz1, hz2⟩ := info_parts info_sync
  have hblt : b < X.heap.size := (Array.getElem?_eq_some_iff.1 hb).1
  have hown : X.ownsRow b 178 2 (.slice (some ⟨b, 0, none⟩) 0 0) 0 [] := ⟨by simp, .inr ⟨b, 0, #[], rfl, Nat.le_refl _, hb, Nat.le_refl _, by unfold maxLen; omega, by simp, by simp⟩⟩
  cases A3 with
  | none =>
    have hn : lb = [] := by
      cases lb with
      | nil => rfl
      | cons p r => obtain ⟨_, _, he, _⟩ := hA 0 _ rfl; cases he
    subst hn
    have hl0 : l = 0 := by simpa using hl.symm
    subst hl0
    refine ⟨b, 0, X, fun ty => ?_, hown, ⟨rfl, rfl, rfl, Nat.le_refl _, fun _ _ _ => rfl⟩⟩
    simp [Builtin.append_, run_underlying Try.underlying26, sizeOf, typeInfo, hi0, Builtin.lenOf, Builtin.firstCells, storeCells]
  | some ad =>
    have hnews : ∀ j u, (cellsS lb)[j]? = some u → X.cell? (ad.add j) = some u := fun j u hj => by
      obtain ⟨b, off, e, _, _, hc⟩ := hA j u hj
      injection e with e
      subst e
      rw [show Addr.add ⟨b, off, none⟩ j = ⟨b, off + j, none⟩ from by simp [Addr.add]]
      exact hc
    have key : ∀ ty, ∃ v' w', (Builtin.append_ #[26, 26] ty #[.slice (some ⟨b, 0, none⟩) 0 0, .slice (some ad) l c3]).run Try.prog X = .ok v' w' ∧ w'.ownsRow b 178 2 v' (0 + l) ([] ++ cellsS lb) ∧ X.grownBy w' (Value.slice (some ⟨b, 0, none⟩) 0 0).ownBlock ∧
        (v' = .slice none 0 0 ↔ Value.slice (some ⟨b, 0, none⟩) 0 0 = .slice none 0 0 ∧ l = 0) ∧ _ := fun ty =>
      run_append_own_at (P := Try.prog) X b 26 ty 178 i0 _ 2 32 Try.underlying26 hi0 hz0 hz1 hz2 rfl (by decide) _ 0 [] hown ad l c3 (cellsS lb) (by rw [cellsS_len, hl]) hnews (cellsS_one hs) (by unfold maxLen; omega) (by omega) (Nat.le_of_lt hblt)
    obtain ⟨v', w', hr, h2, h3, h4, _⟩ := key 0
    rw [Nat.zero_add, List.nil_append] at h2
    rcases h2.2 with ⟨hv, _⟩ | ⟨g, cap, cur, rfl, _⟩
    · exact absurd (h4.1 hv).1 (by intro e; cases e)
    · exact ⟨g, cap, w', fun ty => hr, h2, h3⟩
/-- .. and one more. -/
theorem appS2 {X : World} {nb l base : Nat} {V : Value} {lb : List SyT} {s : Int} {Av : Option Addr} {nv cv : Nat} {zs : List Int} (hrow : X.ownsRow base 178 2 V l (cellsS lb)) (hn : X.heap[nb]? = some (.cells #[.int .i64 s, .slice Av nv cv] 178 (0, 0))) (hf : l ≤ 100000) (hbase : base ≤ X.heap.size) :
    ∃ g2 c2 X', (∀ ty, (Builtin.append_ #[26, 26] ty #[V, .slice (some ⟨nb, 0, none⟩) 1 1]).run Try.prog X = .ok (.slice (some ⟨g2, 0, none⟩) (l + 1) c2) X') ∧ X'.ownsRow base 178 2 (.slice (some ⟨g2, 0, none⟩) (l + 1) c2) (l + 1) (cellsS (lb ++ [(s, (.slice Av nv cv, zs))])) ∧ X.grownBy X' V.ownBlock := by
  obtain ⟨i0, hi0, hz0, hz1, hz2⟩ := info_parts info_sync
  obtain ⟨g2, c2, X', hr, h2, h3, _, _⟩ := run_append_lies (P := Try.prog) X 26 0 base 178 i0 _ 2 32 Try.underlying26 hi0 hz0 hz1 hz2 rfl (by decide) _ l (cellsS lb) hrow ⟨nb, 0, none⟩ 1 1 [.int .i64 s, .slice Av nv cv] rfl (World.news_of_block (cs := #[.int .i64 s, .slice Av nv cv]) (t := 178) (fr := (0, 0)) hn) (by simp [Value.oneCell']) (by decide) (by unfold maxLen; omega) (by omega) hbase X.heap.size rfl
  exact ⟨g2, c2, X', fun ty => hr, by rw [cellsS_snoc]; exact h2, h3⟩
/-- An append whose run is known. -/
theorem wpList_append_run {P : Program} {ops : Array Oper} {rest : List Oper} {o : Oper} {a : Act} {Q : Exit → Act → World → Prop} {w : World} (hgd : o.guard = none) (s x : Operand) (t : TypeId)
    (ho : o.op = .call { callee := .builtin .append, args := #[s, x], argTypes := #[t, t] }) (v u R : Value) (W' : World) (hr : ∀ ty, (Builtin.append_ #[t, t] ty #[v, u]).run P w = .ok R W') (hs : a.eval s = v) (hx : a.eval x = u)
    (hK : wpList P ops Q rest (a.put o.dst R) W') : wpList P ops Q (o :: rest) a w := by
  refine wpList_plain hgd fun _ hK2 => ?_
  unfold Oper.wp execOp
  simp only [ho, resolve, invoke, builtin, Sem.run_bind, Sem.run_pure, Result.andThen_ok, List.map_toArray, List.map_cons, List.map_nil, hs, hx, hr]
  exact hK2 _ _ hK
/-- A cell of a row is written. -/
theorem RdG.setAt {S : Nat → Prop} {W : World} {g : Nat} {L : List Value} (h : RdG S W (some ⟨g, 0, none⟩) L) (i : Nat) (v : Value) : RdG S (W.setCell ⟨g, i, none⟩ v) (some ⟨g, 0, none⟩) (L.set i v) := fun k u hk => by
  have hk2 : k < L.length := by
    have := (List.getElem?_eq_some_iff.1 hk).1
    rwa [List.length_set] at this
  obtain ⟨b, off, e, h1, h2, h3⟩ := h k _ (List.getElem?_eq_getElem hk2)
  injection e with e
  injection e with e1 e2
  subst e1 e2
  refine ⟨g, 0, rfl, by rw [World.size_setCell]; exact h1, h2, ?_⟩
  by_cases e : i = k
  · subst e
    rw [List.getElem?_set_self hk2] at hk
    injection hk with hk
    rw [← hk, Nat.zero_add]
    rw [Nat.zero_add] at h3
    exact World.cell?_setCell_same _ _ _ h3
  · rw [List.getElem?_set_ne e, List.getElem?_eq_getElem hk2] at hk
    injection hk with hk
    rw [← hk, World.cell?_setCell_other _ _ _ _ (fun e2 => e (by injection e2 with _ e2; omega))]
    exact h3
theorem cellsS_set : ∀ (L : List SyT) (i : Nat) (k : Int) (v : Value × List Int), (∀ p, L[i]? = some p → p.1 = k) → cellsS (L.set i (k, v)) = (cellsS L).set (i * 2 + 1) v.1
  | [], i, k, v, _ => by simp [cellsS]
  | a :: r, 0, k, v, h => by
    have := h a rfl
    subst this
    rfl
  | a :: r, i + 1, k, v, h => by
    have := cellsS_set r i k v (fun p hp => h p (by simpa using hp))
    rw [show (i + 1) * 2 + 1 = i * 2 + 1 + 1 + 1 by omega]
    show _ :: _ :: cellsS (r.set i (k, v)) = _ :: _ :: (cellsS r).set (i * 2 + 1) v.1
    rw [this]
theorem putS_found {L : List SyT} {k : Int} {v : Value × List Int} {j : Nat} {p : SyT} (hn : (L.take j).find? (fun p => p.1 == k) = none) (hp : L[j]? = some p) (he : p.1 = k) : putS L k v = L.set j (k, v) := by
  unfold putS
  obtain ⟨hjl, hje⟩ := List.getElem?_eq_some_iff.1 hp
  have : L.findIdx? (fun p => p.1 == k) = some j := by
    rw [List.findIdx?_eq_some_iff_getElem]
    refine ⟨hjl, by rw [hje]; simpa using he, fun i hi => ?_⟩
    have hil : i < L.length := by omega
    rw [List.find?_eq_none] at hn
    have := hn L[i] (List.mem_iff_getElem.2 ⟨i, by rw [List.length_take]; omega, by rw [List.getElem_take]⟩)
    exact this
  rw [this]
theorem putS_new {L : List SyT} {k : Int} {v : Value × List Int} (hn : (L.take L.length).find? (fun p => p.1 == k) = none) : putS L k v = L ++ [(k, v)] := by
  rw [List.take_length] at hn
  unfold putS
  have : L.findIdx? (fun p => p.1 == k) = none := by
    rw [List.findIdx?_eq_none_iff]
    intro p hp
    have := List.find?_eq_none.1 hn p hp
    simpa using this
  rw [this]
/-- What a put leaves. -/
def PutOut (w : World) (S : Nat → Prop) (L : List SyT) (e : Ending) (w' : World) : Prop := ∃ A c, e = .returned (.slice A L.length c) ∧ RdG (SN S w) w' A (cellsS L) ∧ Below w.heap.size w w'
set_option maxRecDepth 100000 in
set_option maxHeartbeats 4000000 in
theorem RPut_any {w : World} {S : Nat → Prop} {A : Option Addr} {L : List SyT} {l c : Nat} (h : RdG S w A (cellsS L)) (hv : Sls L) (hl : L.length = l) (few : l ≤ 1000) (k : Int) (Av : Option Addr) (cv : Nat) (zs : List Int) :
    Calls Try.prog 72 #[.slice A l c, .int .i64 k, .slice Av zs.length cv] w (PutOut w S (putS L k (.slice Av zs.length cv, zs))) := by
  subst hl
  obtain ⟨g1, c1, X2, hr1, ho1, hg1⟩ := appS1 (X := w.alloc (.cells #[] 178)) (b := w.heap.size) (c3 := c) (heap_alloc_last w _) (h.below (below_new w _)) hv rfl (Nat.le_trans few (by omega))
  have HB := Lib.hid (show Below w.heap.size w X2 from (below_new w (.cells #[] 178)).grown hg1 (by simp) (fun q hq => by injection hq with hq; omega))
  have HR1 := Lib.hid hr1
  have HO := Lib.hid ho1
  have HG : Hid (RdG (SN S w) X2 (some ⟨g1, 0, none⟩) (cellsS L)) := Lib.hid (RdG.of_own ho1 (fun e => by
    have : L = [] := by simpa using e
    rw [this]; rfl) (fun b hb => .inr hb))
  clear hr1 ho1 hg1 h
  go_enter Try.func72, Try.ntmps72
  go_upto_region 2 with (at_builtin; refine wpList_append_run rfl _ _ _ rfl _ _ _ _ HR1.out rfl rfl ?_)
  clear HR1
  go_wp2
  go_loop [14] (fun i => ∃ j : Nat, j ≤ L.length ∧ i = .int .i64 (j : Int) ∧ Hid ((L.take j).find? (fun p => p.1 == k) = none)) (fun i => L.length - (intOf i).toNat)
  case atStart => exact ⟨0, Nat.zero_le _, rfl, Lib.hid rfl⟩
  case round =>
    obtain ⟨j, hj, rfl, HNO⟩ := hrel
    by_cases hlt : j < L.length
    · obtain ⟨⟨pl, v, zv⟩, hp⟩ : ∃ p, L[j]? = some p := ⟨_, List.getElem?_eq_getElem hlt⟩
      obtain ⟨bb, off, e1, hbb, q0, q1⟩ := HG.out.sy hp
      injection e1 with e1
      injection e1 with e1 e2
      subst e1 e2
      rw [Nat.zero_add] at q0 q1
      have HP := Lib.hid hp
      simp only at q0 q1
      have hkl : (j : Int) < (L.length : Int) := by omega
      have hk0 : (0 : Int) ≤ (j : Int) := by omega
      clear hp
      by_cases e : pl = k
      · have HPS := Lib.hid (putS_found (v := (.slice Av zs.length cv, zs)) HNO.out HP.out e)
        have HCS := Lib.hid (cellsS_set L j k (.slice Av zs.length cv, zs) (fun p hp => by rw [HP.out] at hp; injection hp with hp; rw [← hp]; exact e))
        have hfr := HO.out.frozenAt (j * 2 + 1)
        have HRES := Lib.hid (HG.out.setAt (j * 2 + 1) (.slice Av zs.length cv))
        have HBF := Lib.hid (bl1 (k := j * 2 + 1) HB.out (HO.out.lt g1 rfl).1 (.slice Av zs.length cv))
        subst e
        go_wp2
        go_ret
        rw [HPS.out]
        exact ⟨some ⟨g1, 0, none⟩, c1, by rw [List.length_set]; rfl, by rw [HCS.out]; exact HRES.out, HBF.out⟩
      · have HN2 : Hid ((L.take (j + 1)).find? (fun p => p.1 == k) = none) := Lib.hid (findT_none HNO.out HP.out (by simpa using e))
        go_wp2
        go_round
        case rel => exact ⟨j + 1, by omega, by go_num, HN2⟩
        case measure => simp [intOf]; omega
    · obtain rfl : j = L.length := by omega
      have HPS := Lib.hid (putS_new (v := (.slice Av zs.length cv, zs)) HNO.out)
      obtain ⟨g2, c2, X4, hr2, ho2, hg2⟩ := appS2 (X := X2.alloc (.cells #[.int .i64 k, .slice Av zs.length cv] 178)) (nb := X2.heap.size) (base := w.heap.size) (s := k) (Av := Av) (nv := zs.length) (cv := cv) (zs := zs) (HO.out.alloc _) (heap_alloc_last X2 _) (Nat.le_trans few (by omega)) (by rw [World.size_alloc]; have := HB.out.size; omega)
      have HBF := Lib.hid (show Below w.heap.size w X4 from (HB.out.alloc HB.out.size (.cells #[.int .i64 k, .slice Av zs.length cv] 178)).grown hg2 (by rw [World.size_alloc]; have := HB.out.size; omega) (fun q hq => (HO.out.lt q hq).1))
      have HRES : Hid (RdG (SN S w) X4 (some ⟨g2, 0, none⟩) (cellsS (L ++ [(k, (.slice Av zs.length cv, zs))]))) := Lib.hid (RdG.of_own ho2 (fun e => by omega) (fun b hb => .inr hb))
      have HR2 := Lib.hid hr2
      clear hr2 ho2 hg2
      go_wp2_with (at_builtin; refine wpList_append_run rfl _ _ _ rfl _ _ _ _ HR2.out rfl rfl ?_)
      go_wp2
      go_ret
      rw [HPS.out]
      exact ⟨some ⟨g2, 0, none⟩, c2, by rw [List.length_append]; rfl, HRES.out, HBF.out⟩
end Go.Proofs.Ytdgmcaehadigaaa
