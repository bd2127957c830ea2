/- The document's table of mutexes (ganglionref19), by contract: Holder, Waits, rest, Held. -/
import Derived.Test.YtdgmcaehadigaaaRefLckP
import Derived.Test.YtdgmcaehadigaaaLckHeld
import Derived.Test.YtdgmcaehadigaaaLawRows
import Derived.Test.YtdgmcaehadigaaaBx
import Derived.Deep.AppendLies
namespace Go.Proofs.Ytdgmcaehadigaaa
open Go.RowKit

theorem info_pair : (Try.prog.info? 143).map (fun i => (i.zero, i.size, i.bytes)) = some (some (.agg #[.int .i64 0, .int .i64 0]), 2, 16) := by kernel_rfl
/-- Pairs, cell by cell. -/
def cellsQ (l : List PrT) : List Value := l.flatMap fun p => [.int .i64 p.1, .int .i64 p.2]
theorem cellsQ_snoc (l : List PrT) (p : PrT) : cellsQ (l ++ [p]) = cellsQ l ++ [.int .i64 p.1, .int .i64 p.2] := by simp [cellsQ]
theorem cellsQ_at : ∀ (l : List PrT) (k : Nat) (p : PrT), l[k]? = some p → (cellsQ l)[k * 2]? = some (.int .i64 p.1) ∧ (cellsQ l)[k * 2 + 1]? = some (.int .i64 p.2)
  | a :: r, 0, p, h => by
    simp at h
    subst h
    exact ⟨rfl, rfl⟩
  | a :: r, k + 1, p, h => by
    have := cellsQ_at r k p (by simpa using h)
    rw [show (k + 1) * 2 = k * 2 + 2 by omega]
    exact this
theorem RdP2.more {w : World} {N N' : Nat} {A : Option Addr} {L : List PrT} (h : RdP2 w N A L) (hN : N ≤ N') : RdP2 w N' A L := fun k p hp => by
  obtain ⟨b, off, h1, h2, h3⟩ := h k p hp
  exact ⟨b, off, h1, by omega, h3⟩
theorem RdP2.later {w w' : World} {A : Option Addr} {L : List PrT} (h : RdP2 w w.heap.size A L) (hb : Below w.heap.size w w') : RdP2 w' w'.heap.size A L := (h.below hb).more hb.size
theorem cellsQ_cell {w : World} {g j : Nat} {cur : Array Value} {t : TypeId} (h : w.heap[g]? = some (.cells cur t (0, 0))) : w.cell? ⟨g, j, none⟩ = cur[j]? := cell_of_row _ _ j _ t (0, 0) h
theorem RdP2.of_own {w : World} {base n c : Nat} {A : Option Addr} {L : List PrT} (h : w.ownsRow base 143 2 (.slice A n c) n (cellsQ L)) (hn : L.length = n) : RdP2 w w.heap.size A L := fun k p hp => by
  have hk : k < L.length := (List.getElem?_eq_some_iff.1 hp).1
  rcases h.2 with ⟨_, h0⟩ | ⟨g, cap, cur, hv, _, hh, _, _, _, hx⟩
  · omega
  · injection hv with hv _ _
    subst hv
    obtain ⟨e1, e2⟩ := cellsQ_at L k p hp
    have hat : ∀ j, j < n * 2 → cur[j]? = (cellsQ L)[j]? := fun j hj => by
      rw [← hx, List.getElem?_take, if_pos hj, Array.getElem?_toList]
    refine ⟨g, 0, rfl, (Array.getElem?_eq_some_iff.1 hh).1, ?_, ?_⟩
    · rw [Nat.zero_add, cellsQ_cell hh, hat _ (by omega), e1]
    · rw [Nat.zero_add, cellsQ_cell hh, hat _ (by omega), e2]

/-- A table of the document's, as a value. -/
def tV (A1 : Option Addr) (l1 c1 : Nat) (A2 : Option Addr) (l2 c2 : Nat) (b : Bool) : Value := .agg #[.slice A1 l1 c1, .slice A2 l2 c2, .bool b]
/-- .. says x; its lists lie within Z. -/
def RT (w : World) (Z : Nat → Prop) (V : Value) (x : LX) : Prop :=
  ∃ A1 c1 A2 c2, V = tV A1 x.hs.length c1 A2 x.ws.length c2 (!x.up) ∧ RdP2 w w.heap.size A1 x.hs ∧ RdP2 w w.heap.size A2 x.ws ∧ (x.hs.length ≠ 0 → ∀ g o, A1 = some ⟨g, o, none⟩ → Z g) ∧ (x.ws.length ≠ 0 → ∀ g o, A2 = some ⟨g, o, none⟩ → Z g)
set_option maxRecDepth 100000 in
set_option maxHeartbeats 2000000 in
theorem RHolder_any {w : World} {A1 A2 : Option Addr} {L : List PrT} {l1 c1 l2 c2 : Nat} {b : Bool} (h : RdP2 w w.heap.size A1 L) (hl : L.length = l1) (few : l1 ≤ 100000) (n : Int) :
    Calls Try.prog 28 #[tV A1 l1 c1 A2 l2 c2 b, .int .i64 n] w fun e w' => e = .returned (.tuple #[.int .i64 (gotI (hold L n)), .bool (gotB (hold L n))]) ∧ Below w.heap.size w w' := by
  subst hl
  have HL := Lib.hid h
  have HF := Lib.hid (fun k z h1 h2 h3 => NoN.found (L := L) (n := n) (k := k) (z := z) h1 h2 h3)
  have HS := Lib.hid (fun k z h1 h2 h3 => NoN.step (L := L) (n := n) (k := k) (z := z) h1 h2 h3)
  have HE := Lib.hid (fun h => NoN.all (L := L) (n := n) h)
  clear h
  unfold tV
  have HB := Lib.hid (below_new w (.cells #[.slice A1 L.length c1, .slice A2 l2 c2, .bool b] 49))
  go_enter Try.func28, Try.ntmps28
  go_wp2
  obtain ⟨W0, hW0⟩ : ∃ W0, W0 = w.alloc (.cells #[.slice A1 L.length c1, .slice A2 l2 c2, .bool b] 49) := ⟨_, rfl⟩
  rw [← hW0] at HB ⊢
  clear hW0
  go_loopw [11] (fun i wr => ∃ k : Nat, k ≤ L.length ∧ i = .int .i64 (k : Int) ∧ Below w.heap.size w wr ∧ Hid (NoN L n k)) (fun i _ => L.length - (intOf i).toNat)
  case atStart => exact ⟨0, Nat.zero_le _, rfl, HB.out, Lib.hid (NoN.zero L n)⟩
  case round =>
    obtain ⟨k, hk, rfl, hbel, HN⟩ := hrel
    by_cases hlt : k < L.length
    · obtain ⟨bb, off, rfl, hbb, q0, q1⟩ := (HL.out.below hbel) k _ (List.getElem?_eq_getElem hlt)
      have HZ := Lib.hid (List.getElem?_eq_getElem hlt)
      generalize L[k] = z at *
      obtain ⟨zn, zw⟩ := z
      simp only at q0 q1
      have hkl : (k : Int) < (L.length : Int) := by omega
      have hk0 : (0 : Int) ≤ (k : Int) := by omega
      have HB2 := Lib.hid (Below.next hbel (below_new wr (.cells #[.int .i64 zn, .int .i64 zw] 143)))
      clear hbel
      by_cases e : zn = n
      · have HR := Lib.hid (HF.out k _ HN.out HZ.out e)
        subst e
        go_wp2
        go_ret2
        exact ⟨by rw [HR.out]; rfl, HB2.out⟩
      · have HN2 := Lib.hid (HS.out k _ HN.out HZ.out e)
        go_wp2
        go_roundw
        case rel => exact ⟨k + 1, by omega, by go_num, HB2.out, HN2⟩
        case measure => simp [intOf]; omega
    · obtain rfl : k = L.length := by omega
      go_wp2
      go_ret2
      exact ⟨by rw [HE.out HN.out]; rfl, hbel⟩
set_option maxRecDepth 100000 in
set_option maxHeartbeats 2000000 in
theorem RWaits_any {w : World} {A1 A2 : Option Addr} {L : List PrT} {l1 c1 l2 c2 : Nat} {b : Bool} (h : RdP2 w w.heap.size A2 L) (hl : L.length = l2) (few : l2 ≤ 100000) (n : Int) :
    Calls Try.prog 30 #[tV A1 l1 c1 A2 l2 c2 b, .int .i64 n] w fun e w' => e = .returned (.tuple #[.int .i64 (gotI (waitOf L n)), .bool (gotB (waitOf L n))]) ∧ Below w.heap.size w w' := by
  subst hl
  have HL := Lib.hid h
  have HF := Lib.hid (fun k z h1 h2 h3 => NoW.found (L := L) (n := n) (k := k) (z := z) h1 h2 h3)
  have HS := Lib.hid (fun k z h1 h2 h3 => NoW.step (L := L) (n := n) (k := k) (z := z) h1 h2 h3)
  have HE := Lib.hid (fun h => NoW.all (L := L) (n := n) h)
  clear h
  unfold tV
  have HB := Lib.hid (below_new w (.cells #[.slice A1 l1 c1, .slice A2 L.length c2, .bool b] 49))
  go_enter Try.func30, Try.ntmps30
  go_wp2
  obtain ⟨W0, hW0⟩ : ∃ W0, W0 = w.alloc (.cells #[.slice A1 l1 c1, .slice A2 L.length c2, .bool b] 49) := ⟨_, rfl⟩
  rw [← hW0] at HB ⊢
  clear hW0
  go_loopw [11] (fun i wr => ∃ k : Nat, k ≤ L.length ∧ i = .int .i64 (k : Int) ∧ Below w.heap.size w wr ∧ Hid (NoW L n k)) (fun i _ => L.length - (intOf i).toNat)
  case atStart => exact ⟨0, Nat.zero_le _, rfl, HB.out, Lib.hid (NoW.zero L n)⟩
  case round =>
    obtain ⟨k, hk, rfl, hbel, HN⟩ := hrel
    by_cases hlt : k < L.length
    · obtain ⟨bb, off, rfl, hbb, q0, q1⟩ := (HL.out.below hbel) k _ (List.getElem?_eq_getElem hlt)
      have HZ := Lib.hid (List.getElem?_eq_getElem hlt)
      generalize L[k] = z at *
      obtain ⟨zn, zw⟩ := z
      simp only at q0 q1
      have hkl : (k : Int) < (L.length : Int) := by omega
      have hk0 : (0 : Int) ≤ (k : Int) := by omega
      have HB2 := Lib.hid (Below.next hbel (below_new wr (.cells #[.int .i64 zn, .int .i64 zw] 143)))
      clear hbel
      by_cases e : zw = n
      · have HR := Lib.hid (HF.out k _ HN.out HZ.out e)
        subst e
        go_wp2
        go_ret2
        exact ⟨by rw [HR.out]; rfl, HB2.out⟩
      · have HN2 := Lib.hid (HS.out k _ HN.out HZ.out e)
        go_wp2
        go_roundw
        case rel => exact ⟨k + 1, by omega, by go_num, HB2.out, HN2⟩
        case measure => simp [intOf]; omega
    · obtain rfl : k = L.length := by omega
      go_wp2
      go_ret2
      exact ⟨by rw [HE.out HN.out]; rfl, hbel⟩
/-- All but a worker's, in new memory. -/
def PairsNew (L : List PrT) (w : World) (e : Ending) (w' : World) : Prop := ∃ A c, e = .returned (.slice A L.length c) ∧ w'.ownsRow w.heap.size 143 2 (.slice A L.length c) L.length (cellsQ L) ∧ Below w.heap.size w w'
set_option maxRecDepth 100000 in
set_option maxHeartbeats 4000000 in
theorem RRest_any {w : World} {A : Option Addr} {L : List PrT} {c : Nat} (h : RdP2 w w.heap.size A L) (few : L.length ≤ 100000) (v : Int) :
    Calls Try.prog 86 #[.slice A L.length c, .int .i64 v] w (PairsNew (restL L v) w) := by
  obtain ⟨i1, hj0, hj1, hj2, hj3⟩ := info_parts info_pair
  have HL := Lib.hid h
  have HS := Lib.hid (fun k z h => rest_take (L := L) (w := v) (k := k) (z := z) h)
  have HLN := Lib.hid (fun k => rest_len L v k)
  have H0 : Hid (restL (L.take 0) v = []) := Lib.hid rfl
  have HA : Hid (restL (L.take L.length) v = restL L v) := Lib.hid (by rw [List.take_length])
  clear h
  go_enter Try.func86, Try.ntmps86
  go_wp2
  go_loopw [5, 10] (fun s i wr => ∃ (k : Nat) (R : List PrT), k ≤ L.length ∧ i = .int .i64 (k : Int) ∧ Below w.heap.size w wr ∧ wr.ownsRow w.heap.size 143 2 s R.length (cellsQ R) ∧ Hid (restL (L.take k) v = R)) (fun _ i _ => L.length - (intOf i).toNat)
  case atStart => exact ⟨0, [], Nat.zero_le _, rfl, Below.refl _ _, World.ownsRow_nil _ _ _ _, H0⟩
  case round =>
    obtain ⟨k, R, hk, rfl, hbel, ho, HR⟩ := hrel
    have hln : R.length ≤ k := by have := HLN.out k; rw [HR.out] at this; exact this
    obtain ⟨A4, c4, rfl, _, _⟩ := ownSlice ho
    by_cases hlt : k < L.length
    · obtain ⟨bb, off, rfl, hbb, q0, q1⟩ := (HL.out.below hbel) k _ (List.getElem?_eq_getElem hlt)
      have hst := HS.out k _ (List.getElem?_eq_getElem hlt)
      rw [HR.out] at hst
      generalize L[k] = z at *
      obtain ⟨zn, zw⟩ := z
      simp only at q0 q1 hst
      have hkl : (k : Int) < (L.length : Int) := by omega
      have hk0 : (0 : Int) ≤ (k : Int) := by omega
      have HQ := Lib.hid (Bx.new wr [.int .i64 zn, .int .i64 zw] 143)
      have HBX := Lib.hid (hbel.alloc hbel.size (.cells #[.int .i64 zn, .int .i64 zw] 143))
      have HO := Lib.hid (ho.alloc (.cells #[.int .i64 zn, .int .i64 zw] 143))
      have hsz := hbel.size
      clear hbel ho HR
      by_cases e : zw = v
      · rw [if_pos e, List.append_nil] at hst
        have HN := Lib.hid hst
        clear hst
        subst e
        go_wp2
        go_roundw
        case rel => exact ⟨k + 1, R, by omega, by go_num, HBX.out, HO.out, HN⟩
        case measure => simp [intOf]; omega
      · rw [if_neg e] at hst
        have HN := Lib.hid hst
        clear hst
        go_upto_region 6 with (fail)
        obtain ⟨X, hX⟩ : ∃ X, X = wr.alloc (.cells #[.int .i64 zn, .int .i64 zw] 143) := ⟨_, rfl⟩
        have hq0 : X.cell? ⟨wr.heap.size, 0, none⟩ = some (.int .i64 zn) := by rw [hX]; exact HQ.out.c 0 _ rfl
        have hq1 : X.cell? ⟨wr.heap.size, 1, none⟩ = some (.int .i64 zw) := by rw [hX]; exact HQ.out.c 1 _ rfl
        rw [← hX] at HBX HO ⊢
        clear hX HQ q0 q1
        generalize wr.heap.size = D at *
        have hxs := HBX.out.size
        go_wp2_with (at_builtin; refine wpList_append_lies _ rfl _ _ 47 rfl w.heap.size 143 i1 _ 2 16 Try.underlying47 hj0 hj1 hj2 hj3 rfl (by decide) _ R.length (cellsQ R) rfl (HO.out.alloc _) ⟨X.heap.size, 0, none⟩ 1 1 [.int .i64 zn, .int .i64 zw] rfl rfl (World.news_of_block (cs := #[.int .i64 zn, .int .i64 zw]) (t := 143) (fr := (0, 0)) (heap_alloc_last X _)) (by simp [Value.oneCell']) (by decide) (by unfold maxLen; omega) (by omega) (by rw [World.size_alloc]; omega) (X.heap.size + 1) (by simp) ?_)
        intro g cp w4 hown hgr _ hglt
        have hb4 := Lib.hid ((HBX.out.alloc hxs (.cells #[.int .i64 zn, .int .i64 zw] 143)).grown hgr (by rw [World.size_alloc]; omega) (fun q hq => (HO.out.lt q hq).1))
        have HO' := Lib.hid (show w4.ownsRow w.heap.size 143 2 (.slice (some ⟨g, 0, none⟩) (R.length + 1) cp) (R ++ [(zn, zw)]).length (cellsQ (R ++ [(zn, zw)])) from by rw [cellsQ_snoc, List.length_append]; exact hown)
        clear hown hgr
        go_wp2
        go_roundw
        case rel => exact ⟨k + 1, R ++ [(zn, zw)], by omega, by go_num, hb4.out, HO'.out, HN⟩
        case measure => simp [intOf]; omega
    · obtain rfl : k = L.length := by omega
      have HRR : Hid (restL L v = R) := Lib.hid (by rw [← HR.out, HA.out])
      have HO := Lib.hid ho
      clear ho
      go_wp2
      go_ret
      rw [HRR.out]
      exact ⟨A4, c4, rfl, HO.out, hbel⟩
end Go.Proofs.Ytdgmcaehadigaaa
