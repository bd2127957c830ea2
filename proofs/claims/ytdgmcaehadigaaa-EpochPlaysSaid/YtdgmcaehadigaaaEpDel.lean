/- slices.Delete of the first refs of a list, and slices.IndexFunc with the closure of epoch's Free, by contract. -/
import Derived.Test.YtdgmcaehadigaaaEpRet
import Derived.Shelf.RegionOpenPlain
import Derived.Lib.SliceRun
import Derived.Lib.Walk
namespace Go.Proofs.Ytdgmcaehadigaaa
open Go.RowKit

/-- A row of cells with others laid over it from o on. -/
def overW (cur : Array Value) : Nat → List Value → Array Value
  | _, [] => cur
  | o, v :: r => overW (cur.setIfInBounds o v) (o + 1) r
theorem overW_size : ∀ (vs : List Value) (cur : Array Value) (o : Nat), (overW cur o vs).size = cur.size
  | [], _, _ => rfl
  | v :: r, cur, o => by rw [overW, overW_size r]; simp
theorem overW_get : ∀ (vs : List Value) (cur : Array Value) (o j : Nat), o + vs.length ≤ cur.size → (overW cur o vs)[j]? = if o ≤ j ∧ j < o + vs.length then vs[j - o]? else cur[j]?
  | [], cur, o, j, _ => by rw [overW, if_neg (by simp)]
  | v :: r, cur, o, j, h => by
    rw [List.length_cons] at h
    rw [overW, overW_get r _ _ _ (by simp; omega), Array.getElem?_setIfInBounds, List.length_cons]
    by_cases h1 : o + 1 ≤ j ∧ j < o + 1 + r.length
    · rw [if_pos h1, if_pos (by omega), show j - o = (j - (o + 1)) + 1 by omega, List.getElem?_cons_succ]
    · rw [if_neg h1]
      by_cases h2 : o = j
      · subst h2
        rw [if_pos rfl, if_pos (by omega), if_pos (by omega), Nat.sub_self]
        rfl
      · rw [if_neg h2, if_neg (by omega)]
theorem heap_overW {g : Nat} {t : TypeId} : ∀ (vs : List Value) (o : Nat) (w : World) (cur : Array Value), w.heap[g]? = some (.cells cur t (0, 0)) → (w.setCells g o vs).heap[g]? = some (.cells (overW cur o vs) t (0, 0))
  | [], _, _, _, h => h
  | v :: r, o, w, cur, h => heap_overW r (o + 1) _ _ (heap_setCell_same w g o cur t v h)
theorem chg_setCells {g : Nat} {a : World} {M : Nat → Prop} (hM : M g) : ∀ (vs : List Value) (o : Nat) (w : World), Chg M a w → Chg M a (w.setCells g o vs)
  | [], _, _, h => h
  | v :: r, o, _, h => chg_setCells hM r (o + 1) _ (h.setCell hM v)
theorem cell_cells {w : World} {g j : Nat} {cur : Array Value} {t : TypeId} (h : w.heap[g]? = some (.cells cur t (0, 0))) : w.cell? ⟨g, j, none⟩ = cur[j]? ∧ w.frozen? ⟨g, j, none⟩ = false :=
  ⟨cell_of_row _ _ j _ t (0, 0) h, by simp only [World.frozen?]; rw [h]; simp⟩

theorem run_clear_refs (w : World) (ty : TypeId) (g o n c : Nat) (hn : 0 < n) (hc : ∀ j, j < n * 2 → (w.cell? ⟨g, o + j, none⟩).isSome = true) (hf : ∀ j, j < n * 2 → w.frozen? ⟨g, o + j, none⟩ = false) :
    (Builtin.clear_ #[67] ty #[.slice (some ⟨g, o, none⟩) n c]).run Try.prog w = .ok (.tuple #[]) (w.setCells g o (Builtin.zeroCells #[.int .i64 0, .int .i64 0] n).toList) := by
  have hl : (Builtin.zeroCells #[.int .i64 0, .int .i64 0] n).toList.length = n * 2 := by simp [Builtin.zeroCells]
  have h1 : ∀ v ∈ (Builtin.zeroCells #[.int .i64 0, .int .i64 0] n).toList, v.oneCell' = true := by
    intro v hv
    simp only [Builtin.zeroCells, Array.toList_map, List.mem_map] at hv
    obtain ⟨i, _, rfl⟩ := hv
    rcases (show i % 2 = 0 ∨ i % 2 = 1 by omega) with e | e
    · simp [e]; rfl
    · simp [e]; rfl
  have hst := run_storeCells_cells (P := Try.prog) g o (Builtin.zeroCells #[.int .i64 0, .int .i64 0] n).toList 0 w (by rw [hl]; simpa using hc) (by rw [hl]; simpa using hf) h1
  simp only [Nat.add_zero] at hst
  obtain ⟨m, rfl⟩ : ∃ m, n = m + 1 := ⟨n - 1, by omega⟩
  simp [Builtin.clear_, run_underlying Try.underlying67, Try.zeroValue154, Value.cells, hst]

/-- Nothing is deleted. -/
theorem Del_none (A : Option Addr) (n c : Nat) (w : World) (hnc : n ≤ c) (hc : c ≤ 9223372036854775807) (hA : A = none → c = 0) :
    Calls Try.prog 96 #[.slice A n c, .int .i64 0, .int .i64 0] w fun e w' => e = .returned (.slice A n c) ∧ w = w' := by
  have hn0 : (0 : Int) ≤ (n : Int) := by omega
  have hn1 : (n : Int) ≤ (c : Int) := by omega
  cases A with
  | none =>
    obtain rfl := hA rfl
    obtain rfl : n = 0 := by omega
    go_enter Try.func96, Try.ntmps96
    go_wp2
    go_ret
    exact ⟨rfl, rfl⟩
  | some ad =>
    clear hA
    go_enter Try.func96, Try.ntmps96
    go_wp2
    all_goals
      go_ret
      exact ⟨rfl, rfl⟩

set_option maxRecDepth 100000 in
set_option maxHeartbeats 4000000 in
/-- The first t are deleted. -/
theorem Del_any (g cap : Nat) (cur : Array Value) (L : List (Int × Nat)) (t : Nat) (w : World) (hh : w.heap[g]? = some (.cells cur 154 (0, 0))) (hcs : cur.size = cap * 2) (hlc : L.length ≤ cap) (hm : cap ≤ 9223372036854775807) (hx : cur.toList.take (L.length * 2) = cellsR L) (ht0 : 0 < t) (ht : t ≤ L.length) (few : L.length ≤ 100000) :
    Calls Try.prog 96 #[.slice (some ⟨g, 0, none⟩) L.length cap, .int .i64 0, .int .i64 (t : Int)] w fun e w' =>
      e = .returned (.slice (some ⟨g, 0, none⟩) (L.length - t) cap) ∧ (∃ cur', w'.heap[g]? = some (.cells cur' 154 (0, 0)) ∧ cur'.size = cap * 2 ∧ cur'.toList.take ((L.length - t) * 2) = cellsR (L.drop t)) ∧ Chg (fun b => b = g) w w' := by
  have mixed : Try.prog.follows .mixedOrders = true := by kernel_rfl
  obtain ⟨i0, hi0, hz0, hz1, hz2⟩ := info_parts info_ref
  obtain ⟨n, hn⟩ : ∃ n, L.length = n := ⟨_, rfl⟩
  obtain ⟨news, hnews⟩ : ∃ news, news = cellsR (L.drop t) := ⟨_, rfl⟩
  have hlen : news.length = (n - t) * 2 := by rw [hnews, cellsR_len, List.length_drop, hn]
  have hget : ∀ j u, news[j]? = some u → cur[t * 2 + j]? = some u := fun j u hj => by
    rw [hnews, ← cellsR_drop, ← hx, List.getElem?_drop] at hj
    have := List.getElem?_take (l := cur.toList) (i := L.length * 2) (j := t * 2 + j)
    rw [hj] at this
    split at this
    · rw [← Array.getElem?_toList]; exact this.symm
    · cases this
  rw [hn] at hlc hx ht few ⊢
  obtain ⟨A, hA, hsrc⟩ : ∃ A : Addr, (if cap = t then some (⟨g, 0, none⟩ : Addr) else some ⟨g, t * 2, none⟩) = some A ∧ Hid (∀ j u, news[j]? = some u → w.drew.cell? (A.add j) = some u) := by
    by_cases h : cap = t
    · refine ⟨⟨g, 0, none⟩, by simp [h], fun j u hu => ?_⟩
      have h0 : news.length = 0 := by rw [hlen]; omega
      rw [List.length_eq_zero_iff.1 h0] at hu
      simp at hu
    · refine ⟨⟨g, t * 2, none⟩, by simp [h], fun j u hu => ?_⟩
      rw [show Addr.add ⟨g, t * 2, none⟩ j = ⟨g, t * 2 + j, none⟩ from by simp [Addr.add]]
      exact ((cell_cells hh).1).trans (hget j u hu)
  have s1 : Hid (news.length = (n - t) * 2) := hlen
  have s2 : Hid (∀ u ∈ news, u.oneCell' = true) := Lib.hid (by rw [hnews]; exact cellsR_one _)
  have s3 : Hid (∀ j, j < news.length → (w.drew.cell? ⟨g, 0 + 0 * 2 + j, none⟩).isSome = true ∧ w.drew.frozen? ⟨g, 0 + 0 * 2 + j, none⟩ = false) := Lib.hid fun j hj => by
    have := cell_cells (j := 0 + 0 * 2 + j) hh
    refine ⟨?_, this.2⟩
    show (w.cell? _).isSome = true
    rw [this.1, Array.getElem?_eq_getElem (by omega)]
    rfl
  obtain ⟨W1, hW1⟩ : ∃ W1, W1 = w.drew.setCells g (0 + 0 * 2) news := ⟨_, rfl⟩
  have hh1 : W1.heap[g]? = some (.cells (overW cur 0 news) 154 (0, 0)) := by
    rw [hW1]
    exact heap_overW news _ _ _ hh
  have hsz1 : (overW cur 0 news).size = cap * 2 := by rw [overW_size, hcs]
  have hcl : ∀ ty, (Builtin.clear_ #[67] ty #[.slice (some ⟨g, (n - t) * 2, none⟩) (n - (n - t)) (cap - (n - t))]).run Try.prog W1 = .ok (.tuple #[]) (W1.setCells g ((n - t) * 2) (Builtin.zeroCells #[.int .i64 0, .int .i64 0] (n - (n - t))).toList) := fun ty =>
    run_clear_refs W1 ty g ((n - t) * 2) _ _ (by omega) (fun j hj => by rw [(cell_cells hh1).1, Array.getElem?_eq_getElem (by omega)]; rfl) (fun j hj => (cell_cells hh1).2)
  have hzl : (Builtin.zeroCells #[.int .i64 0, .int .i64 0] (n - (n - t))).toList.length = (n - (n - t)) * 2 := by simp [Builtin.zeroCells]
  have HF : Hid ((∃ cur', (W1.setCells g ((n - t) * 2) (Builtin.zeroCells #[.int .i64 0, .int .i64 0] (n - (n - t))).toList).heap[g]? = some (.cells cur' 154 (0, 0)) ∧ cur'.size = cap * 2 ∧ cur'.toList.take ((n - t) * 2) = cellsR (L.drop t)) ∧ Chg (fun b => b = g) w (W1.setCells g ((n - t) * 2) (Builtin.zeroCells #[.int .i64 0, .int .i64 0] (n - (n - t))).toList)) := Lib.hid (by
    refine ⟨⟨_, heap_overW _ _ _ _ hh1, by rw [overW_size, hsz1], ?_⟩, ?_⟩
    · rw [← hnews]
      apply List.ext_getElem?
      intro j
      rw [List.getElem?_take]
      by_cases hj : j < (n - t) * 2
      · rw [if_pos hj, Array.getElem?_toList, overW_get _ _ _ _ (by rw [hzl, hsz1]; omega), if_neg (by omega), overW_get _ _ _ _ (by rw [hlen]; omega), if_pos ⟨Nat.zero_le _, by omega⟩, Nat.sub_zero]
      · rw [if_neg hj, List.getElem?_eq_none (by omega)]
    · refine chg_setCells (M := fun b => b = g) rfl _ _ _ ?_
      rw [hW1]
      exact chg_setCells (M := fun b => b = g) rfl _ _ _ Chg.refl.drew)
  generalize (Builtin.zeroCells #[.int .i64 0, .int .i64 0] (n - (n - t))).toList = zs at *
  have hW : Hid (W1 = w.drew.setCells g (0 + 0 * 2) news) := hW1
  have hic : (0 : Int) ≤ (cap : Int) := by omega
  have hjc : (t : Int) ≤ (n : Int) := by omega
  have hnc : (n : Int) ≤ (cap : Int) := by omega
  have ht1 : ¬ (0 : Int) = (t : Int) := by omega
  have ht2 : (0 : Int) ≤ (t : Int) := by omega
  clear hW1 hh1 hsz1 hget hnews hlen hh hx hcs hzl
  go_enter Try.func96, Try.ntmps96
  go_upto_region 5 with (fail)
  go_region_law_o (refine step_append_room rfl (.tmp 22) (.tmp 25) 67 rfl 154 i0 2 Try.underlying67 hi0 hz1 g 0 0 cap (by simp [Act.eval, Act.put]) A (n - t) (cap - t) news (by simp [Act.eval, Act.put]) s1.out hsrc.out s2.out (by omega) s3.out ?_; rw [← hW.out])
  all_goals
    go_wp2
    go_ret
    exact ⟨rfl, HF.out⟩

theorem tw_next {f : Int × Nat → Bool} : ∀ (L : List (Int × Nat)) (k : Nat) (p : Int × Nat), k ≤ (L.takeWhile f).length → L[k]? = some p → (f p = true → k + 1 ≤ (L.takeWhile f).length) ∧ (f p = false → (L.takeWhile f).length = k)
  | a :: r, 0, p, _, hp => by
    simp at hp
    subst hp
    constructor
    · intro h
      rw [List.takeWhile_cons_of_pos h]
      simp
    · intro h
      rw [List.takeWhile_cons_of_neg (by simp [h])]
      rfl
  | a :: r, k + 1, p, hk, hp => by
    by_cases ha : f a = true
    · rw [List.takeWhile_cons_of_pos ha, List.length_cons] at hk ⊢
      have := tw_next (f := f) r k p (by omega) (by simpa using hp)
      exact ⟨fun h => by have := this.1 h; omega, fun h => by rw [this.2 h]⟩
    · rw [List.takeWhile_cons_of_neg ha] at hk
      simp at hk
theorem tw_len {f : Int × Nat → Bool} (L : List (Int × Nat)) : (L.takeWhile f).length ≤ L.length := by
  have := congrArg List.length (List.takeWhile_append_dropWhile (p := f) (l := L))
  rw [List.length_append] at this
  omega

/-- Is what was retired so not ripe yet? -/
theorem notRipe_any (B bx e : Nat) (s : Int) (g : Nat) (w : World) (cx : w.cell? ⟨bx, 0, none⟩ = some (.pointer (some ⟨B, 0, none⟩))) (c0 : w.cell? ⟨B, 0, none⟩ = some (.int .i64 (e : Int))) (he : e < 200000) (hg : g ≤ e) :
    Calls Try.prog 95 #[.agg #[.int .i64 s, .int .i64 (g : Int)], .pointer (some ⟨bx, 0, none⟩)] w fun en w' => en = .returned (.bool (!ripe e (s, g))) ∧ Below w.heap.size w w' := by
  have d1 := ((Below.refl w.heap.size w).alloc (Nat.le_refl _) (.cells #[.int .i64 s, .int .i64 (g : Int)] 154)).cell (p := ⟨bx, 0, none⟩) (cellE_lt cx) |>.trans cx
  have d2 := ((Below.refl w.heap.size w).alloc (Nat.le_refl _) (.cells #[.int .i64 s, .int .i64 (g : Int)] 154)).cell (p := ⟨B, 0, none⟩) (cellE_lt c0) |>.trans c0
  have HB := Lib.hid (fun q => ((Below.refl w.heap.size w).alloc (Nat.le_refl _) (.cells #[.int .i64 s, .int .i64 (g : Int)] 154)).trans (below_draws _ q _))
  have hge : (g : Int) ≤ (e : Int) := by omega
  have he2 : (e : Int) < 200000 := by omega
  by_cases hr : g + 2 ≤ e
  · have HR := Lib.hid (show (!ripe e (s, g)) = false by unfold ripe; rw [decide_eq_true hr]; rfl)
    have hd : ¬ (e : Int) - (g : Int) < 2 := by omega
    rw [HR.out]
    clear hr cx c0
    go_enter Try.func95, Try.ntmps95
    go_upto_region 1 with (fail)
    go_quiet (fail)
    go_wp2
    go_ret
    exact ⟨rfl, HB.out _⟩
  · have HR := Lib.hid (show (!ripe e (s, g)) = true by unfold ripe; rw [decide_eq_false hr]; rfl)
    have hd : (e : Int) - (g : Int) < 2 := by omega
    rw [HR.out]
    clear hr cx c0
    go_enter Try.func95, Try.ntmps95
    go_upto_region 1 with (fail)
    go_quiet (fail)
    go_wp2
    go_ret
    exact ⟨rfl, HB.out _⟩

/-- Refs in memory, in blocks below N. -/
def RdR (w : World) (N : Nat) (A : Option Addr) (L : List (Int × Nat)) : Prop :=
  ∀ k p, L[k]? = some p → ∃ b off, A = some ⟨b, off, none⟩ ∧ b < N ∧ w.cell? ⟨b, off + k * 2, none⟩ = some (.int .i64 p.1) ∧ w.cell? ⟨b, off + k * 2 + 1, none⟩ = some (.int .i64 (p.2 : Int))
theorem RdR.below {w w' : World} {N : Nat} {A : Option Addr} {L : List (Int × Nat)} (h : RdR w N A L) (hb : Below N w w') : RdR w' N A L := fun k p hp => by
  obtain ⟨b, off, h1, h2, h3, h4⟩ := h k p hp
  exact ⟨b, off, h1, h2, (hb.cell (p := ⟨b, off + k * 2, none⟩) h2).trans h3, (hb.cell (p := ⟨b, off + k * 2 + 1, none⟩) h2).trans h4⟩
theorem RdR.more {w : World} {N N' : Nat} {A : Option Addr} {L : List (Int × Nat)} (h : RdR w N A L) (hN : N ≤ N') : RdR w N' A L := fun k p hp => by
  obtain ⟨b, off, h1, h2, h3⟩ := h k p hp
  exact ⟨b, off, h1, by omega, h3⟩
theorem RdR.of_own {w : World} {base n c : Nat} {A : Option Addr} {L : List (Int × Nat)} (h : w.ownsRow base 154 2 (.slice A n c) n (cellsR L)) (hn : L.length = n) : RdR w w.heap.size A L := fun k p hp => by
  have hk : k < L.length := (List.getElem?_eq_some_iff.1 hp).1
  rcases h.2 with ⟨_, h0⟩ | ⟨g, cap, cur, hv, _, hh, _, _, _, hx⟩
  · omega
  · injection hv with hv _ _
    subst hv
    obtain ⟨e1, e2⟩ := cellsR_at L k p hp
    have hat : ∀ j, j < n * 2 → cur[j]? = (cellsR L)[j]? := fun j hj => by
      rw [← hx, List.getElem?_take, if_pos hj, Array.getElem?_toList]
    refine ⟨g, 0, rfl, (Array.getElem?_eq_some_iff.1 hh).1, ?_, ?_⟩
    · rw [Nat.zero_add, (cell_cells hh).1, hat _ (by omega), e1]
    · rw [Nat.zero_add, (cell_cells hh).1, hat _ (by omega), e2]

/-- The place of the first that is not ripe; -1, if all are. -/
def idxR (e : Nat) (L : List (Int × Nat)) : Int := if (L.takeWhile (ripe e)).length < L.length then ((L.takeWhile (ripe e)).length : Int) else -1

set_option maxRecDepth 100000 in
theorem Index_any (B bx e : Nat) (A : Option Addr) (L : List (Int × Nat)) (c : Nat) (w : World) (hA : RdR w w.heap.size A L) (cx : w.cell? ⟨bx, 0, none⟩ = some (.pointer (some ⟨B, 0, none⟩))) (c0 : w.cell? ⟨B, 0, none⟩ = some (.int .i64 (e : Int))) (he : e < 200000) (hg : ∀ p ∈ L, p.2 ≤ e) (few : L.length ≤ 100000) :
    Calls Try.prog 94 #[.slice A L.length c, .func (.func 95) #[] #[.pointer (some ⟨bx, 0, none⟩)]] w fun en w' =>
      en = .returned (.int .i64 (idxR e L)) ∧ Below w.heap.size w w' := by
  have HX := Lib.hid cx
  have H0 := Lib.hid c0
  have HA := Lib.hid hA
  have HG := Lib.hid hg
  clear cx c0 hA hg
  go_enter Try.func94, Try.ntmps94
  go_wp2
  go_loopw [8] (fun i wr => ∃ k : Nat, k ≤ L.length ∧ i = .int .i64 k ∧ Below w.heap.size w wr ∧ Hid (k ≤ (L.takeWhile (ripe e)).length)) (fun i _ => L.length - (intOf i).toNat)
  case atStart => exact ⟨0, Nat.zero_le _, rfl, Below.refl _ _, Nat.zero_le _⟩
  case round =>
    obtain ⟨k, hk, rfl, hbel, HK⟩ := hrel
    by_cases hlt : k < L.length
    · obtain ⟨p, hp⟩ : ∃ p, L[k]? = some p := ⟨_, List.getElem?_eq_getElem hlt⟩
      obtain ⟨s, g⟩ := p
      obtain ⟨b, off, rfl, hb, q1, q2⟩ := HA.out.below hbel k _ hp
      have hgm := HG.out _ (List.mem_of_getElem? hp)
      have hx := cellE_lt HX.out
      have hB := cellE_lt H0.out
      have HC := Lib.hid (notRipe_any B bx e s g wr ((hbel.cell (p := ⟨bx, 0, none⟩) hx).trans HX.out) ((hbel.cell (p := ⟨B, 0, none⟩) hB).trans H0.out) he hgm)
      have HT := Lib.hid (tw_next L k (s, g) HK.out hp)
      have HBL := Lib.hid hbel
      simp only at q1 q2
      clear hp hgm hx hB hbel
      have hkl : (k : Int) < (L.length : Int) := by omega
      have hk0 : (0 : Int) ≤ (k : Int) := by omega
      cases hr : ripe e (s, g) with
      | true =>
        rw [hr] at HC HT
        have HK2 : Hid (k + 1 ≤ (L.takeWhile (ripe e)).length) := Lib.hid (HT.out.1 rfl)
        clear hr HT
        go_wp2_with fail
        refine HC.out.mono ?_
        rintro en w2 ⟨rfl, hb2⟩
        have hB2 := Below.next HBL.out hb2
        clear hb2
        go_wp2
        go_roundw
        case rel => exact ⟨k + 1, by omega, by go_num, hB2, HK2.out⟩
        case measure => simp [intOf]; omega
      | false =>
        rw [hr] at HC HT
        have HO := Lib.hid (show idxR e L = (k : Int) by unfold idxR; rw [HT.out.2 rfl, if_pos hlt])
        clear hr HT
        go_wp2_with fail
        refine HC.out.mono ?_
        rintro en w2 ⟨rfl, hb2⟩
        have hB2 := Below.next HBL.out hb2
        clear hb2
        go_wp2
        go_ret
        exact ⟨ret_int HO.out.symm, hB2⟩
    · have hkl : ¬ (k : Int) < (L.length : Int) := by omega
      have HO := Lib.hid (show idxR e L = -1 by unfold idxR; rw [if_neg]; have := HK.out; omega)
      go_wp2
      go_ret
      exact ⟨ret_int HO.out.symm, hbel⟩

end Go.Proofs.Ytdgmcaehadigaaa
