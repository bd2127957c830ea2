/- The document's watch (ganglionref18), by contract: how it lies in memory; none, clockOf, syncOf. -/
import Derived.Test.YtdgmcaehadigaaaRefRacP
import Derived.Test.YtdgmcaehadigaaaClkRefN
import Derived.Test.YtdgmcaehadigaaaRacTwo
import Derived.Test.YtdgmcaehadigaaaBx
import Derived.Test.YtdgmcaehadigaaaHeldI
namespace Go.Proofs.Ytdgmcaehadigaaa
open Go.RowKit

/-- Values in memory, cell by cell, in blocks of S. -/
def RdG (S : Nat → Prop) (W : World) (A : Option Addr) (L : List Value) : Prop := ∀ k u, L[k]? = some u → ∃ b off, A = some ⟨b, off, none⟩ ∧ b < W.heap.size ∧ S b ∧ W.cell? ⟨b, off + k, none⟩ = some u
/-- .. or new ones. -/
def SN (S : Nat → Prop) (w : World) (b : Nat) : Prop := S b ∨ w.heap.size ≤ b
section
variable {S S' : Nat → Prop} {w W W' : World} {A : Option Addr} {L : List Value}
theorem RdG.mono (h : RdG S W A L) (hs : ∀ b, S b → S' b) : RdG S' W A L := fun k u hk => by
  obtain ⟨b, off, e, h1, h2, h3⟩ := h k u hk
  exact ⟨b, off, e, h1, hs b h2, h3⟩
theorem RdG.below (h : RdG S W A L) (hb : Below W.heap.size W W') : RdG S W' A L := fun k u hk => by
  obtain ⟨b, off, e, h1, h2, h3⟩ := h k u hk
  exact ⟨b, off, e, Nat.lt_of_lt_of_le h1 hb.size, h2, (hb.cell (p := ⟨b, off + k, none⟩) h1).trans h3⟩
theorem RdG.keep (h : RdG S W A L) (hk : ∀ b, S b → b < W.heap.size → W'.heap[b]? = W.heap[b]?) : RdG S W' A L := fun k u hu => by
  obtain ⟨b, off, e, h1, h2, h3⟩ := h k u hu
  have hs := hk b h2 h1
  refine ⟨b, off, e, ?_, h2, (World.cell?_of_block (w := W) (a := ⟨b, off + k, none⟩) hs).trans h3⟩
  rw [Array.getElem?_eq_getElem h1] at hs
  exact (Array.getElem?_eq_some_iff.1 hs).1
theorem RdG.rd {zs : List Int} (h : RdG S W A (zs.map (Value.int .i64))) : Rd (Value.int .i64) W W.heap.size A zs := fun k z hk => by
  obtain ⟨b, off, e, h1, h2, h3⟩ := h k (.int .i64 z) (by rw [List.getElem?_map, hk]; rfl)
  exact ⟨b, off, e, h1, h3⟩
theorem RdG.nil : RdG S W A [] := fun k u h => by cases h
theorem RdG.of_own {base n c size : Nat} {e : TypeId} (h : W.ownsRow base e size (.slice A n c) n L) (hx : n = 0 → L = []) (hS : ∀ b, base ≤ b → S b) : RdG S W A L := fun k u hk => by
  obtain ⟨b, off, e1, h1, h2⟩ := Rd.of_rows h hx k u hk
  exact ⟨b, off, e1, h1, hS b (h.lt b (by rw [e1]; rfl)).1, h2⟩
end
/-- A clock's numbers as they are told: 65 at most, no zeros behind. -/
def Okz (zs : List Int) : Prop := zs.length ≤ 65 ∧ zs = shortL (numL zs)
theorem okz_short {N : List Int} (h : IsNum N) : Okz (shortL N) := ⟨shortL_le N, by rw [numL_short h]⟩
theorem okz_nil : Okz [] := ⟨Nat.zero_le _, by decide +kernel⟩
/-- A clock's slice. -/
def SG (S : Nat → Prop) (W : World) (v : Value) (zs : List Int) : Prop := ∃ A c, v = .slice A zs.length c ∧ RdG S W A (zs.map (Value.int .i64)) ∧ Okz zs
theorem SG.mono {S S' : Nat → Prop} {W : World} {v : Value} {zs : List Int} (h : SG S W v zs) (hs : ∀ b, S b → S' b) : SG S' W v zs := by
  obtain ⟨A, c, e, h1, h2⟩ := h
  exact ⟨A, c, e, h1.mono hs, h2⟩
theorem SG.below {S : Nat → Prop} {W W' : World} {v : Value} {zs : List Int} (h : SG S W v zs) (hb : Below W.heap.size W W') : SG S W' v zs := by
  obtain ⟨A, c, e, h1, h2⟩ := h
  exact ⟨A, c, e, h1.below hb, h2⟩
theorem SG.nil (S : Nat → Prop) (W : World) : SG S W (.slice none 0 0) [] := ⟨none, 0, rfl, RdG.nil, okz_nil⟩
theorem SG.of_z {S : Nat → Prop} {w w' : World} {L : List Int} {A : Option Addr} {c : Nat} (hr : Rd (Value.int .i64) w' w'.heap.size A L) (hz : ∀ g o, A = some ⟨g, o, none⟩ → w.heap.size ≤ g) (hl : Okz L) : SG (SN S w) w' (.slice A L.length c) L := by
  refine ⟨A, c, rfl, fun k u hk => ?_, hl⟩
  rw [List.getElem?_map] at hk
  obtain ⟨z, hz1, rfl⟩ := Option.map_eq_some_iff.1 hk
  obtain ⟨b, off, e, h1, h2⟩ := hr k z hz1
  exact ⟨b, off, e, h1, .inr (hz b off e), h2⟩
def cellsS (L : List SyT) : List Value := L.flatMap fun p => [.int .i64 p.1, p.2.1]
def cellsN (L : List NT) : List Value := L.flatMap fun p => [.int .i64 p.1.1, .int .i64 p.1.2, .int .i64 p.2]
theorem cellsS_at : ∀ (l : List SyT) (k : Nat) (p : SyT), l[k]? = some p → (cellsS l)[k * 2]? = some (.int .i64 p.1) ∧ (cellsS l)[k * 2 + 1]? = some p.2.1
  | a :: r, 0, p, h => by
    simp at h
    subst h
    exact ⟨rfl, rfl⟩
  | a :: r, k + 1, p, h => by
    have := cellsS_at r k p (by simpa using h)
    rw [show (k + 1) * 2 = k * 2 + 2 by omega]
    exact this
theorem cellsN_at : ∀ (l : List NT) (k : Nat) (p : NT), l[k]? = some p → (cellsN l)[k * 3]? = some (.int .i64 p.1.1) ∧ (cellsN l)[k * 3 + 1]? = some (.int .i64 p.1.2) ∧ (cellsN l)[k * 3 + 2]? = some (.int .i64 p.2)
  | a :: r, 0, p, h => by
    simp at h
    subst h
    exact ⟨rfl, rfl, rfl⟩
  | a :: r, k + 1, p, h => by
    have := cellsN_at r k p (by simpa using h)
    rw [show (k + 1) * 3 = k * 3 + 3 by omega]
    exact this
theorem cellsS_len (l : List SyT) : (cellsS l).length = l.length * 2 := by
  induction l with
  | nil => rfl
  | cons a r ih =>
    show (_ :: _ :: cellsS r).length = _
    simp only [List.length_cons, ih]
    omega
theorem cellsN_len (l : List NT) : (cellsN l).length = l.length * 3 := by
  induction l with
  | nil => rfl
  | cons a r ih =>
    show (_ :: _ :: _ :: cellsN r).length = _
    simp only [List.length_cons, ih]
    omega
theorem cellsN_snoc (l : List NT) (p : NT) : cellsN (l ++ [p]) = cellsN l ++ [.int .i64 p.1.1, .int .i64 p.1.2, .int .i64 p.2] := by simp [cellsN]
theorem cellsS_snoc (l : List SyT) (p : SyT) : cellsS (l ++ [p]) = cellsS l ++ [.int .i64 p.1, p.2.1] := by simp [cellsS]
theorem RdG.sy {S : Nat → Prop} {W : World} {A : Option Addr} {L : List SyT} (h : RdG S W A (cellsS L)) {k : Nat} {p : SyT} (hk : L[k]? = some p) : ∃ b off, A = some ⟨b, off, none⟩ ∧ b < W.heap.size ∧ W.cell? ⟨b, off + k * 2, none⟩ = some (.int .i64 p.1) ∧ W.cell? ⟨b, off + k * 2 + 1, none⟩ = some p.2.1 := by
  obtain ⟨h1, h2⟩ := cellsS_at L k p hk
  obtain ⟨b, off, e, g1, _, g2⟩ := h _ _ h1
  obtain ⟨b', off', e', _, _, g3⟩ := h _ _ h2
  rw [e] at e'
  injection e' with e'
  injection e' with e1 e2
  subst e1 e2
  exact ⟨b, off, e, g1, g2, by rw [← Nat.add_assoc] at g3; exact g3⟩
theorem RdG.nt {S : Nat → Prop} {W : World} {A : Option Addr} {L : List NT} (h : RdG S W A (cellsN L)) {k : Nat} {p : NT} (hk : L[k]? = some p) : ∃ b off, A = some ⟨b, off, none⟩ ∧ b < W.heap.size ∧ W.cell? ⟨b, off + k * 3, none⟩ = some (.int .i64 p.1.1) ∧ W.cell? ⟨b, off + k * 3 + 1, none⟩ = some (.int .i64 p.1.2) ∧ W.cell? ⟨b, off + k * 3 + 2, none⟩ = some (.int .i64 p.2) := by
  obtain ⟨h1, h2, h3⟩ := cellsN_at L k p hk
  obtain ⟨b, off, e, g1, _, g2⟩ := h _ _ h1
  obtain ⟨b', off', e', _, _, g3⟩ := h _ _ h2
  obtain ⟨b2, off2, e2', _, _, g4⟩ := h _ _ h3
  rw [e] at e' e2'
  injection e' with e'
  injection e' with e1 e2
  injection e2' with e2'
  injection e2' with e3 e4
  subst e1 e2 e3 e4
  exact ⟨b, off, e, g1, g2, by rw [← Nat.add_assoc] at g3; exact g3, by rw [← Nat.add_assoc] at g4; exact g4⟩
/-- A watch of the document's, as a value, and in memory. -/
structure RYs (w : World) (S : Nat → Prop) (A1 A2 A3 A4 A5 : Option Addr) (y : YX) : Prop where
  ck : RdG S w A1 (cellsS y.ck)
  sy : RdG S w A2 (cellsS y.sy)
  wr : RdG S w A3 (cellsN y.wr)
  rd : RdG S w A4 (cellsN y.rd)
  cl : RdG S w A5 (cellsCl y.cl)
  cks : ∀ p ∈ y.ck, SG S w p.2.1 p.2.2
  sys : ∀ p ∈ y.sy, SG S w p.2.1 p.2.2
  few : y.ck.length ≤ 1000 ∧ y.sy.length ≤ 1000 ∧ y.wr.length ≤ 1000 ∧ y.rd.length ≤ 1000 ∧ y.cl.length ≤ 1000
def RY (w : World) (S : Nat → Prop) (V : Value) (y : YX) : Prop := ∃ A1 c1 A2 c2 A3 c3 A4 c4 A5 c5, V = .agg #[.slice A1 y.ck.length c1, .slice A2 y.sy.length c2, .slice A3 y.wr.length c3, .slice A4 y.rd.length c4, .slice A5 y.cl.length c5] ∧ RYs w S A1 A2 A3 A4 A5 y
section
variable {S S' : Nat → Prop} {w W : World} {A1 A2 A3 A4 A5 : Option Addr} {y : YX}
theorem RYs.mono (h : RYs w S A1 A2 A3 A4 A5 y) (hs : ∀ b, S b → S' b) : RYs w S' A1 A2 A3 A4 A5 y := ⟨h.ck.mono hs, h.sy.mono hs, h.wr.mono hs, h.rd.mono hs, h.cl.mono hs, fun p hp => (h.cks p hp).mono hs, fun p hp => (h.sys p hp).mono hs, h.few⟩
theorem RYs.below (h : RYs w S A1 A2 A3 A4 A5 y) (hb : Below w.heap.size w W) : RYs W S A1 A2 A3 A4 A5 y := ⟨h.ck.below hb, h.sy.below hb, h.wr.below hb, h.rd.below hb, h.cl.below hb, fun p hp => (h.cks p hp).below hb, fun p hp => (h.sys p hp).below hb, h.few⟩
theorem RYs.later (h : RYs w S A1 A2 A3 A4 A5 y) (hb : Below w.heap.size w W) : RYs W (SN S w) A1 A2 A3 A4 A5 y := (h.below hb).mono fun _ hz => .inl hz
end
theorem findT_none {α : Type} {p : α → Bool} {L : List α} {k : Nat} {z : α} (h : (L.take k).find? p = none) (hz : L[k]? = some z) (hn : p z = false) : (L.take (k + 1)).find? p = none := by
  rw [List.take_add_one, hz, List.find?_append, h]
  simp [hn]
theorem findT_some {α : Type} {p : α → Bool} {L : List α} {k : Nat} {z : α} (h : (L.take k).find? p = none) (hz : L[k]? = some z) (hp : p z = true) : L.find? p = some z := by
  have hL : L = L.take (k + 1) ++ L.drop (k + 1) := (List.take_append_drop _ _).symm
  rw [hL, List.find?_append, List.take_add_one, hz, List.find?_append, h]
  simp [hp]
theorem RNone_any (x : Int) (w : World) : Calls Try.prog 71 #[.int .i64 x] w fun e w' => e = .returned (.bool (!isW x)) ∧ w = w' := by
  by_cases h1 : x < 0
  · have hr : (!isW x) = true := by unfold isW; simp; omega
    rw [hr]
    go_enter Try.func71, Try.ntmps71
    go_wp2
    go_ret
    exact ⟨rfl, rfl⟩
  · by_cases h2 : 64 < x
    · have hr : (!isW x) = true := by unfold isW; simp; omega
      rw [hr]
      go_enter Try.func71, Try.ntmps71
      go_wp2
      go_ret
      exact ⟨rfl, rfl⟩
    · have hr : (!isW x) = false := by unfold isW; simp; omega
      rw [hr]
      go_enter Try.func71, Try.ntmps71
      go_wp2
      go_ret
      exact ⟨rfl, rfl⟩
/-- What a call that tells a clock leaves. -/
def CkOut (w : World) (S : Nat → Prop) (N : List Int) (e : Ending) (w' : World) : Prop := ∃ v zs, e = .returned v ∧ SG (SN S w) w' v zs ∧ numL zs = N ∧ Below w.heap.size w w'
set_option maxRecDepth 100000 in
set_option maxHeartbeats 4000000 in
theorem RClockOf_any {w : World} {S : Nat → Prop} {A1 A2 A3 A4 A5 : Option Addr} {c1 c2 c3 c4 c5 l1 l2 l3 l4 l5 : Nat} {y : YX} (h : RYs w S A1 A2 A3 A4 A5 y) (hl : y.ck.length = l1) (k : Nat) :
    Calls Try.prog 74 #[.agg #[.slice A1 l1 c1, .slice A2 l2 c2, .slice A3 l3 c3, .slice A4 l4 c4, .slice A5 l5 c5], .int .i64 (k : Int)] w (CkOut w S (ckN y k)) := by
  have HC := Lib.hid h.ck
  have HK := Lib.hid h.cks
  have few := h.few.1
  have HF : Hid (∀ q, lookS y.ck k = some q → ckN y k = numL q.2) := Lib.hid fun q hq => by unfold ckN; rw [hq]
  have HN : Hid (lookS y.ck k = none → ckN y k = tickN zeroN k) := Lib.hid fun hq => by unfold ckN; rw [hq]
  generalize ckN y k = R at *
  generalize y.ck = L at *
  clear h
  have HB := Lib.hid (below_new w (.cells #[.slice A1 l1 c1, .slice A2 l2 c2, .slice A3 l3 c3, .slice A4 l4 c4, .slice A5 l5 c5] 30))
  go_enter Try.func74, Try.ntmps74
  go_wp2
  obtain ⟨W0, hW0⟩ : ∃ W0, W0 = w.alloc (.cells #[.slice A1 l1 c1, .slice A2 l2 c2, .slice A3 l3 c3, .slice A4 l4 c4, .slice A5 l5 c5] 30) := ⟨_, rfl⟩
  rw [← hW0] at HB ⊢
  clear hW0
  go_loopw [10] (fun i wr => ∃ j : Nat, j ≤ l1 ∧ i = .int .i64 (j : Int) ∧ Below w.heap.size w wr ∧ Hid ((L.take j).find? (fun p => p.1 == (k : Int)) = none)) (fun i _ => l1 - (intOf i).toNat)
  case atStart => exact ⟨0, Nat.zero_le _, rfl, HB.out, Lib.hid rfl⟩
  case round =>
    obtain ⟨j, hj, rfl, hbel, HNO⟩ := hrel
    by_cases hlt : j < l1
    · obtain ⟨⟨pl, v, zs⟩, hp⟩ : ∃ p, L[j]? = some p := ⟨_, List.getElem?_eq_getElem (by omega)⟩
      obtain ⟨bb, off, rfl, hbb, q0, q1⟩ := (HC.out.below hbel).sy hp
      have hsg := HK.out _ (List.mem_of_getElem? hp)
      have HP := Lib.hid hp
      simp only at q0 q1 hsg
      have HSG := Lib.hid hsg
      obtain ⟨Av, cv, rfl, _, _⟩ := hsg
      have hkl : (j : Int) < (l1 : Int) := by omega
      have hk0 : (0 : Int) ≤ (j : Int) := by omega
      have HB2 := Lib.hid (Below.next hbel (below_new wr (.cells #[.int .i64 pl, .slice Av zs.length cv] 178)))
      clear hbel hp
      by_cases e : pl = (k : Int)
      · have HL : Hid (lookS L k = some (.slice Av zs.length cv, zs)) := Lib.hid (by unfold lookS; rw [findT_some HNO.out HP.out (by simpa using e)]; rfl)
        subst e
        go_wp2
        go_ret
        exact ⟨_, zs, rfl, (HSG.out.below HB2.out).mono (fun _ hz => .inl hz), (HF.out _ HL.out).symm, HB2.out⟩
      · have HN2 : Hid ((L.take (j + 1)).find? (fun p => p.1 == (k : Int)) = none) := Lib.hid (findT_none HNO.out HP.out (by simpa using e))
        go_wp2
        go_roundw
        case rel => exact ⟨j + 1, by omega, by go_num, HB2.out, HN2⟩
        case measure => simp [intOf]; omega
    · obtain rfl : j = l1 := by omega
      have HL : Hid (R = tickN zeroN k) := Lib.hid (HN.out (by
        have := HNO.out
        rw [List.take_of_length_le (by omega)] at this
        unfold lookS
        rw [this]
        rfl))
      have hz0 : numL [] = zeroN := by decide +kernel
      have HT := Lib.hid (refTick_any none [] 0 (k : Int) wr (fun k z h => by cases h))
      rw [hz0] at HT
      have HBW := Lib.hid hbel
      clear hbel hz0 HF HN
      go_wp2_with fail
      refine HT.out.mono ?_
      rintro e w5 ⟨A7, c7, rfl, hr, _, _, _, hb5, hz5⟩
      have HO : Hid (CkOut w S R (.returned (.slice A7 (shortL (tickN zeroN k)).length c7)) w5) := Lib.hid ⟨_, _, rfl, SG.of_z hr (fun g o e => Nat.le_trans HBW.out.size (hz5 g o e)) (okz_short (tickN_num zeroN_num _)), by rw [numL_short (tickN_num zeroN_num _), HL.out], Below.next HBW.out hb5⟩
      clear hr hb5 hz5 HT
      go_wp2
      go_ret
      exact HO.out
set_option maxRecDepth 100000 in
set_option maxHeartbeats 4000000 in
theorem RSyncOf_any {w : World} {S : Nat → Prop} {A1 A2 A3 A4 A5 : Option Addr} {c1 c2 c3 c4 c5 l1 l2 l3 l4 l5 : Nat} {y : YX} (h : RYs w S A1 A2 A3 A4 A5 y) (hl : y.sy.length = l2) (k : Int) :
    Calls Try.prog 75 #[.agg #[.slice A1 l1 c1, .slice A2 l2 c2, .slice A3 l3 c3, .slice A4 l4 c4, .slice A5 l5 c5], .int .i64 k] w (CkOut w S (syN y k)) := by
  have HC := Lib.hid h.sy
  have HK := Lib.hid h.sys
  have few := h.few.2.1
  have HF : Hid (∀ q, lookS y.sy k = some q → syN y k = numL q.2) := Lib.hid fun q hq => by unfold syN; rw [hq]
  have HN : Hid (lookS y.sy k = none → syN y k = zeroN) := Lib.hid fun hq => by unfold syN; rw [hq]
  generalize syN y k = R at *
  generalize y.sy = L at *
  clear h
  have HB := Lib.hid (below_new w (.cells #[.slice A1 l1 c1, .slice A2 l2 c2, .slice A3 l3 c3, .slice A4 l4 c4, .slice A5 l5 c5] 30))
  go_enter Try.func75, Try.ntmps75
  go_wp2
  obtain ⟨W0, hW0⟩ : ∃ W0, W0 = w.alloc (.cells #[.slice A1 l1 c1, .slice A2 l2 c2, .slice A3 l3 c3, .slice A4 l4 c4, .slice A5 l5 c5] 30) := ⟨_, rfl⟩
  rw [← hW0] at HB ⊢
  clear hW0
  go_loopw [10] (fun i wr => ∃ j : Nat, j ≤ l2 ∧ i = .int .i64 (j : Int) ∧ Below w.heap.size w wr ∧ Hid ((L.take j).find? (fun p => p.1 == k) = none)) (fun i _ => l2 - (intOf i).toNat)
  case atStart => exact ⟨0, Nat.zero_le _, rfl, HB.out, Lib.hid rfl⟩
  case round =>
    obtain ⟨j, hj, rfl, hbel, HNO⟩ := hrel
    by_cases hlt : j < l2
    · obtain ⟨⟨pl, v, zs⟩, hp⟩ : ∃ p, L[j]? = some p := ⟨_, List.getElem?_eq_getElem (by omega)⟩
      obtain ⟨bb, off, rfl, hbb, q0, q1⟩ := (HC.out.below hbel).sy hp
      have hsg := HK.out _ (List.mem_of_getElem? hp)
      have HP := Lib.hid hp
      simp only at q0 q1 hsg
      have HSG := Lib.hid hsg
      obtain ⟨Av, cv, rfl, _, _⟩ := hsg
      have hkl : (j : Int) < (l2 : Int) := by omega
      have hk0 : (0 : Int) ≤ (j : Int) := by omega
      have HB2 := Lib.hid (Below.next hbel (below_new wr (.cells #[.int .i64 pl, .slice Av zs.length cv] 178)))
      clear hbel hp
      by_cases e : pl = k
      · have HL : Hid (lookS L k = some (.slice Av zs.length cv, zs)) := Lib.hid (by unfold lookS; rw [findT_some HNO.out HP.out (by simpa using e)]; rfl)
        subst e
        go_wp2
        go_ret
        exact ⟨_, zs, rfl, (HSG.out.below HB2.out).mono (fun _ hz => .inl hz), (HF.out _ HL.out).symm, HB2.out⟩
      · have HN2 : Hid ((L.take (j + 1)).find? (fun p => p.1 == k) = none) := Lib.hid (findT_none HNO.out HP.out (by simpa using e))
        go_wp2
        go_roundw
        case rel => exact ⟨j + 1, by omega, by go_num, HB2.out, HN2⟩
        case measure => simp [intOf]; omega
    · obtain rfl : j = l2 := by omega
      have HL : Hid (R = zeroN) := Lib.hid (HN.out (by
        have := HNO.out
        rw [List.take_of_length_le (by omega)] at this
        unfold lookS
        rw [this]
        rfl))
      have hz0 : numL [] = zeroN := by decide +kernel
      have HBW := Lib.hid hbel
      clear hbel HF HN
      go_wp2
      go_ret
      exact ⟨_, [], rfl, SG.nil _ _, by rw [hz0, HL.out], HBW.out⟩
end Go.Proofs.Ytdgmcaehadigaaa
