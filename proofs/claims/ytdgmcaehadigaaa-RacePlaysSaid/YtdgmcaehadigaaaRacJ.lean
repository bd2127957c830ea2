/- The program's watch and the document's, side by side (RacePlays). -/
import Derived.Test.YtdgmcaehadigaaaRacOwn
import Derived.Test.YtdgmcaehadigaaaRacLives
import Derived.Test.YtdgmcaehadigaaaRefRacWw
import Derived.Test.YtdgmcaehadigaaaRefRacNo
namespace Go.Proofs.Ytdgmcaehadigaaa
open Go.RowKit

/-- A fact stays as long as these blocks do. -/
def Stays (Z : Nat → Prop) (F : World → Prop) : Prop := ∀ W W' : World, Keep Z W W' → F W → F W'
theorem Stays.mono {Z Z' : Nat → Prop} {F : World → Prop} (h : Stays Z F) (hz : ∀ b, Z b → Z' b) : Stays Z' F := fun W W' hk => h W W' fun b hb => hk b (hz b hb)
theorem Stays.true (Z : Nat → Prop) : Stays Z (fun _ => True) := fun _ _ _ h => h
/-- The law's own blocks: the lists of the document's watch, and its box. -/
def DZ (Z : Nat → Prop) (D : Nat) (b : Nat) : Prop := Z b ∨ b = D
/-- The program's watch at B holds a, the document's value Vd tells what ad holds, the box D holds Vb; F tells of blocks beside them. -/
def RS (w0 : World) (n B : Nat) (a : AX) (D : Nat) (Vb : List Value) (Vd : Value) (m : Nat) (ad : AX) (F : World → Prop) (w : World) : Prop :=
  ∃ Z y, W3 w0 n B a (DZ Z D) w ∧ RY w Z Vd y ∧ RelY ad y ∧ YFew m y ∧ Bx w D Vb ∧ (∀ b, Z b → b ≠ D) ∧ F w ∧ Stays Z F
theorem RY.keep {w w' : World} {Z : Nat → Prop} {V : Value} {y : YX} (h : RY w Z V y) (hk : ∀ b, Z b → b < w.heap.size → w'.heap[b]? = w.heap[b]?) : RY w' Z V y := by
  obtain ⟨A1, c1, A2, c2, A3, c3, A4, c4, A5, c5, e, h⟩ := h
  exact ⟨A1, c1, A2, c2, A3, c3, A4, c4, A5, c5, e, h.keep hk⟩
theorem lt_of_sameR {w w' : World} {b : Nat} (h : w'.heap[b]? = w.heap[b]?) (hb : b < w.heap.size) : b < w'.heap.size := by
  rw [Array.getElem?_eq_getElem hb] at h
  exact (Array.getElem?_eq_some_iff.1 h).1
theorem Bx.keepR {w w' : World} {D : Nat} {vs : List Value} (h : Bx w D vs) (hk : w'.heap[D]? = w.heap[D]?) : Bx w' D vs :=
  ⟨lt_of_sameR hk h.lt, fun j v hj => (World.cell?_of_block (w := w) (a := ⟨D, j, none⟩) hk).trans (h.c j v hj), fun j => (World.frozen?_of_block (w := w) (a := ⟨D, j, none⟩) hk).trans (h.f j)⟩
theorem doA_nat (a : AX) (kd : Int) {k : Nat} (hk : k < 65) (p : Int) : doA a ((kd, (k : Int)), p) = (if kd = 0 then (loadA a k p, true) else if kd = 1 then (storeA a k p, true) else if kd = 2 then (swapA a k p, true)
      else if kd = 3 then (readA a k p, !hidW a k p) else if kd = 4 then (writeA a k p, (clashW a k p).isNone) else (a, true)) := by
  rw [doA, if_pos (isW_nat hk)]
  simp only [Int.toNat_natCast]
theorem doA_not (a : AX) (kd : Int) {x : Int} (hx : isW x = false) (p : Int) : doA a ((kd, x), p) = (a, true) := by
  rw [doA]
  simp only [hx]
  rfl
theorem isW_is {x : Int} (h : isW x = true) : ∃ k : Nat, x = (k : Int) ∧ k < 65 := by
  have hwb := of_decide_eq_true (show decide (0 ≤ x ∧ x ≤ 64) = true from h)
  exact ⟨x.toNat, by omega, by omega⟩
/-- What a worker's clock tells. -/
def ckL (a : AX) (x : Int) : List Int := if isW x = true then shortL (a.N x.toNat) else []
theorem ckL_nat (a : AX) {k : Nat} (hk : k < 65) : ckL a (k : Int) = shortL (a.N k) := by rw [ckL, if_pos (isW_nat hk), Int.toNat_natCast]
theorem ckL_not (a : AX) {x : Int} (hx : isW x = false) : ckL a x = [] := by rw [ckL, hx]; rfl
theorem ckL_le (a : AX) (x : Int) : (ckL a x).length ≤ 65 := by
  unfold ckL
  split
  · exact shortL_le _
  · exact Nat.zero_le _
/-- Numbers told in memory, and nothing else done. -/
def TellI (L : List Int) (w : World) (e : Ending) (w' : World) : Prop := ∃ v, e = .returned v ∧ Below w.heap.size w w' ∧ (PV.ints L).P v w'
def y0 : YX := ⟨[], [], [], [], []⟩
theorem rel_new : RelY newA y0 := by
  refine ⟨fun k hk => ?_, fun p => rfl, fun k hk => ?_, fun n hn => (List.not_mem_nil hn).elim, fun _ _ => rfl, fun n hn => (List.not_mem_nil hn).elim, fun _ _ _ => rfl, rfl⟩
  · show tickN zeroN k = if k < 65 then tickN zeroN k else zeroN
    rw [if_pos hk]
  · show IsNum (if k < 65 then tickN zeroN k else zeroN)
    rw [if_pos hk]
    exact tickN_num zeroN_num _
section
variable {w0 w w' : World} {n n' m m' B D : Nat} {a a' ad ad' : AX} {Vb : List Value} {Vd V' : Value} {y y' : YX} {Z : Nat → Prop} {F : World → Prop}
/-- What a call of the document's leaves. -/
theorem RS.doc (h : W3 w0 n B a (DZ Z D) w) (hbx : Bx w D Vb) (hZ : ∀ b, Z b → b ≠ D) (hF : F w) (hS : Stays Z F) (hb : Below w.heap.size w w') (hr : RY w' (SN Z w) V' y') (hl : RelY ad' y') (hf : YFew m' y') : RS w0 n B a D Vb V' m' ad' F w' := by
  have hlt : ∀ b, Z b → b < w.heap.size := fun b hz => h.lt (.inl hz)
  refine ⟨_, y', h.add hb (fun b hJ => ?_), hr.within, hl, hf, hbx.below hb, fun b hz => ?_, hS w w' (fun b hz => hb.block b (hlt b hz)) hF, hS.mono fun b hz => ⟨.inl hz, Nat.lt_of_lt_of_le (hlt b hz) hb.size⟩⟩
  · rcases hJ with ⟨hz | hz, hlt⟩ | rfl
    · exact .inl (.inl hz)
    · exact .inr ⟨hz, hlt⟩
    · exact .inl (.inr rfl)
  · rcases hz.1 with hz | hz
    · exact hZ b hz
    · have := hbx.lt
      omega
/-- What a call of the program's leaves. -/
theorem RS.prog (hr : RY w Z Vd y) (hl : RelY ad y) (hf : YFew m y) (hbx : Bx w D Vb) (hZ : ∀ b, Z b → b ≠ D) (hF : F w) (hS : Stays Z F) (h2 : W3 w0 n' B a' (DZ Z D) w') (hk : Keep (DZ Z D) w w') : RS w0 n' B a' D Vb Vd m ad F w' :=
  ⟨Z, y, h2, hr.keep (fun b hz _ => hk b (.inl hz)), hl, hf, hbx.keepR (hk D (.inr rfl)), hZ, hS w w' (fun b hz => hk b (.inl hz)) hF, hS⟩
/-- New memory is laid. -/
theorem RS.later (h : RS w0 n B a D Vb Vd m ad F w) (hb : Below w.heap.size w w') : RS w0 n B a D Vb Vd m ad F w' := by
  obtain ⟨Z, y, h1, h2, h3, h4, h5, hZ, hF, hS⟩ := h
  exact ⟨Z, y, h1.later hb, h2.below hb, h3, h4, h5.below hb, hZ, hS w w' (fun b hz => hb.block b (h1.lt (.inl hz))) hF, hS⟩
theorem RS.more (h : RS w0 n B a D Vb Vd m ad F w) (hn : n ≤ n') (hm : m ≤ m') : RS w0 n' B a D Vb Vd m' ad F w := by
  obtain ⟨Z, y, h1, h2, h3, h4, r⟩ := h
  exact ⟨Z, y, h1.more hn, h2, h3, h4.more hm, r⟩
theorem RS.drop (h : RS w0 n B a D Vb Vd m ad F w) : RS w0 n B a D Vb Vd m ad (fun _ => True) w := by
  obtain ⟨Z, y, h1, h2, h3, h4, h5, hZ, hF, hS⟩ := h
  exact ⟨Z, y, h1, h2, h3, h4, h5, hZ, trivial, Stays.true Z⟩
theorem RS.fact (h : RS w0 n B a D Vb Vd m ad F w) : F w := by
  obtain ⟨Z, y, h1, h2, h3, h4, h5, hZ, hF, hS⟩ := h
  exact hF
theorem RS.bx (h : RS w0 n B a D Vb Vd m ad F w) : Bx w D Vb := by
  obtain ⟨Z, y, h1, h2, h3, h4, h5, hZ, hF, hS⟩ := h
  exact h5
theorem RS.belowR (h : RS w0 n B a D Vb Vd m ad F w) : Below w0.heap.size w0 w := by
  obtain ⟨Z, y, h1, _⟩ := h
  exact h1.below
theorem RS.form (h : RS w0 n B a D Vb Vd m ad F w) : ∃ A1 l1 c1 A2 l2 c2 A3 l3 c3 A4 l4 c4 A5 l5 c5, Vd = .agg #[.slice A1 l1 c1, .slice A2 l2 c2, .slice A3 l3 c3, .slice A4 l4 c4, .slice A5 l5 c5] := by
  obtain ⟨Z, y, h1, h2, _⟩ := h
  exact h2.form
/-- The document's value is written into the box. -/
theorem RS.box {v0 v1 v2 v3 v4 u0 u1 u2 u3 u4 : Value} (h : RS w0 n B a D [u0, u1, u2, u3, u4] (.agg #[v0, v1, v2, v3, v4]) m ad F w) : RS w0 n B a D [v0, v1, v2, v3, v4] (.agg #[v0, v1, v2, v3, v4]) m ad F (((((w.setCell ⟨D, 0, none⟩ v0).setCell ⟨D, 1, none⟩ v1).setCell ⟨D, 2, none⟩ v2).setCell ⟨D, 3, none⟩ v3).setCell ⟨D, 4, none⟩ v4) := by
  obtain ⟨Z, y, h1, h2, h3, h4, h5, hZ, hF, hS⟩ := h
  have hc : Chg (fun b => b = D) w (((((w.setCell ⟨D, 0, none⟩ v0).setCell ⟨D, 1, none⟩ v1).setCell ⟨D, 2, none⟩ v2).setCell ⟨D, 3, none⟩ v3).setCell ⟨D, 4, none⟩ v4) :=
    have c : ∀ {W : World} (o : Nat) (v : Value), Chg (fun b => b = D) w W → Chg (fun b => b = D) w (W.setCell ⟨D, o, none⟩ v) := fun o v h => h.setCell (b := D) (o := o) rfl v
    c 4 v4 (c 3 v3 (c 2 v2 (c 1 v1 (c 0 v0 Chg.refl))))
  have hD : DZ Z D D := .inr rfl
  exact ⟨Z, y, ((((h1.set hD v0).set hD v1).set hD v2).set hD v3).set hD v4, h2.keep (fun b hz hlt => hc.block b hlt (hZ b hz)), h3, h4, h5.put5 v0 v1 v2 v3 v4, hZ, hS w _ (fun b hz => hc.block b (h1.lt (.inl hz)) (hZ b hz)) hF, hS⟩
/-- The start: the document's watch is empty. -/
theorem RS.start (h : W1 w0 0 B newA [] w) (t : TypeId) : RS w0 0 B newA w.heap.size [.slice none 0 0, .slice none 0 0, .slice none 0 0, .slice none 0 0, .slice none 0 0] (.agg #[.slice none 0 0, .slice none 0 0, .slice none 0 0, .slice none 0 0, .slice none 0 0]) 0 newA (fun _ => True) (w.alloc (.cells #[.slice none 0 0, .slice none 0 0, .slice none 0 0, .slice none 0 0, .slice none 0 0] t)) := by
  obtain ⟨Z, ρ, X, hR, h1, h2, h3, h4, _⟩ := h
  have hn := below_new w (.cells #[.slice none 0 0, .slice none 0 0, .slice none 0 0, .slice none 0 0, .slice none 0 0] t)
  have hw : W3 w0 0 B newA (fun _ => False) w := ⟨Z, ρ, X, hR, h1, h2, h3, h4, fun _ e => e.elim⟩
  refine ⟨fun _ => False, y0, hw.add hn (fun b hJ => .inr ?_), ⟨none, 0, none, 0, none, 0, none, 0, none, 0, rfl, RdG.nil, RdG.nil, RdG.nil, RdG.nil, RdG.nil, fun p hp => (List.not_mem_nil hp).elim, fun p hp => (List.not_mem_nil hp).elim, by decide⟩, rel_new, by unfold YFew y0; decide, Bx.new w [.slice none 0 0, .slice none 0 0, .slice none 0 0, .slice none 0 0, .slice none 0 0] t, fun b hz => hz.elim, trivial, Stays.true _⟩
  rcases hJ with hz | rfl
  · exact hz.elim
  · rw [World.size_alloc]
    omega
/-- A box beside them. -/
def CellsR (E : Nat) (vs : List Value) (W : World) : Prop := Bx W E vs
theorem RS.newbox (h : RS w0 n B a D Vb Vd m ad (fun _ => True) w) (vs : List Value) (t : TypeId) : RS w0 n B a D Vb Vd m ad (CellsR w.heap.size vs) (w.alloc (.cells vs.toArray t)) := by
  obtain ⟨Z, y, h1, h2, h3, h4, h5, hZ, _, _⟩ := h
  have hn := below_new w (.cells vs.toArray t)
  have hd := h5.lt
  refine ⟨fun c => Z c ∨ c = w.heap.size, y, h1.add hn (fun c hJ => ?_), (h2.below hn).mono (fun b hz => .inl hz), h3, h4, h5.below hn, fun c hz => ?_, Bx.new w vs t, fun W W' hk hc => Bx.keepR hc (hk w.heap.size (.inr rfl))⟩
  · rcases hJ with (hz | rfl) | rfl
    · exact .inl (.inl hz)
    · exact .inr ⟨Nat.le_refl _, by simp⟩
    · exact .inl (.inr rfl)
  · rcases hz with hz | rfl
    · exact hZ c hz
    · omega
/-- The document's calls. -/
theorem Load_rs (h : RS w0 n B a D Vb Vd m ad F w) (hm : m < 700) (x p : Int) : Calls Try.prog 10 #[Vd, .int .i64 x, .int .i64 p] w fun e w' => ∃ V', e = .returned V' ∧ RS w0 n B a D Vb V' (m + 2) (doA ad ((0, x), p)).1 F w' := by
  obtain ⟨Z, y, h1, h2, h3, h4, h5, hZ, hF, hS⟩ := h
  cases hW : isW x
  · rw [doA_not ad 0 hW]
    obtain ⟨A1, l1, c1, A2, l2, c2, A3, l3, c3, A4, l4, c4, A5, l5, c5, rfl⟩ := h2.form
    refine (RLoad_not x p hW).mono ?_
    rintro e w' ⟨rfl, hb⟩
    exact ⟨_, rfl, RS.doc h1 h5 hZ hF hS hb ((h2.below hb).mono (fun b hz => .inl hz)) h3 (h4.more (by omega))⟩
  · obtain ⟨k, rfl, hk⟩ := isW_is hW
    rw [doA_nat ad 0 hk]
    refine (RLoad_yes h2 (fun b hz => h1.lt (.inl hz)) h3 h4 (by omega) k hk p).mono ?_
    rintro e w' ⟨V', y', rfl, g1, g2, g3, hb⟩
    exact ⟨V', rfl, RS.doc h1 h5 hZ hF hS hb g1 g2 (g3.more (by omega))⟩
theorem Store_rs (h : RS w0 n B a D Vb Vd m ad F w) (hm : m < 700) (x p : Int) : Calls Try.prog 11 #[Vd, .int .i64 x, .int .i64 p] w fun e w' => ∃ V', e = .returned V' ∧ RS w0 n B a D Vb V' (m + 2) (doA ad ((1, x), p)).1 F w' := by
  obtain ⟨Z, y, h1, h2, h3, h4, h5, hZ, hF, hS⟩ := h
  cases hW : isW x
  · rw [doA_not ad 1 hW]
    obtain ⟨A1, l1, c1, A2, l2, c2, A3, l3, c3, A4, l4, c4, A5, l5, c5, rfl⟩ := h2.form
    refine (RStore_not x p hW).mono ?_
    rintro e w' ⟨rfl, hb⟩
    exact ⟨_, rfl, RS.doc h1 h5 hZ hF hS hb ((h2.below hb).mono (fun b hz => .inl hz)) h3 (h4.more (by omega))⟩
  · obtain ⟨k, rfl, hk⟩ := isW_is hW
    rw [doA_nat ad 1 hk]
    refine (RStore_yes h2 (fun b hz => h1.lt (.inl hz)) h3 h4 (by omega) k hk p).mono ?_
    rintro e w' ⟨V', y', rfl, g1, g2, g3, hb⟩
    exact ⟨V', rfl, RS.doc h1 h5 hZ hF hS hb g1 g2 (g3.more (by omega))⟩
theorem Swap_rs (h : RS w0 n B a D Vb Vd m ad F w) (hm : m < 700) (x p : Int) : Calls Try.prog 12 #[Vd, .int .i64 x, .int .i64 p] w fun e w' => ∃ V', e = .returned V' ∧ RS w0 n B a D Vb V' (m + 2) (doA ad ((2, x), p)).1 F w' := by
  obtain ⟨Z, y, h1, h2, h3, h4, h5, hZ, hF, hS⟩ := h
  cases hW : isW x
  · rw [doA_not ad 2 hW]
    obtain ⟨A1, l1, c1, A2, l2, c2, A3, l3, c3, A4, l4, c4, A5, l5, c5, rfl⟩ := h2.form
    refine (RSwap_not x p hW).mono ?_
    rintro e w' ⟨rfl, hb⟩
    exact ⟨_, rfl, RS.doc h1 h5 hZ hF hS hb ((h2.below hb).mono (fun b hz => .inl hz)) h3 (h4.more (by omega))⟩
  · obtain ⟨k, rfl, hk⟩ := isW_is hW
    rw [doA_nat ad 2 hk]
    refine (RSwap_yes h2 (fun b hz => h1.lt (.inl hz)) h3 h4 (by omega) k hk p).mono ?_
    rintro e w' ⟨V', y', rfl, g1, g2, g3, hb⟩
    exact ⟨V', rfl, RS.doc h1 h5 hZ hF hS hb g1 g2 (g3.more (by omega))⟩
theorem Read_rs (h : RS w0 n B a D Vb Vd m ad F w) (hm : m < 700) (x p : Int) : Calls Try.prog 13 #[Vd, .int .i64 x, .int .i64 p] w fun e w' => ∃ V', e = .returned (.tuple #[V', .bool (doA ad ((3, x), p)).2]) ∧ RS w0 n B a D Vb V' (m + 2) (doA ad ((3, x), p)).1 F w' := by
  obtain ⟨Z, y, h1, h2, h3, h4, h5, hZ, hF, hS⟩ := h
  cases hW : isW x
  · rw [doA_not ad 3 hW]
    obtain ⟨A1, l1, c1, A2, l2, c2, A3, l3, c3, A4, l4, c4, A5, l5, c5, rfl⟩ := h2.form
    refine (RRead_not x p hW).mono ?_
    rintro e w' ⟨rfl, hb⟩
    exact ⟨_, rfl, RS.doc h1 h5 hZ hF hS hb ((h2.below hb).mono (fun b hz => .inl hz)) h3 (h4.more (by omega))⟩
  · obtain ⟨k, rfl, hk⟩ := isW_is hW
    rw [doA_nat ad 3 hk]
    refine (RRead_yes h2 (fun b hz => h1.lt (.inl hz)) h3 h4 (by omega) k hk p).mono ?_
    rintro e w' ⟨V', y', rfl, g1, g2, g3, hb⟩
    exact ⟨V', rfl, RS.doc h1 h5 hZ hF hS hb g1 g2 (g3.more (by omega))⟩
theorem Write_rs (h : RS w0 n B a D Vb Vd m ad F w) (hm : m < 700) (x p : Int) : Calls Try.prog 14 #[Vd, .int .i64 x, .int .i64 p] w fun e w' => ∃ V', e = .returned (.tuple #[V', .bool (doA ad ((4, x), p)).2]) ∧ RS w0 n B a D Vb V' (m + 2) (doA ad ((4, x), p)).1 F w' := by
  obtain ⟨Z, y, h1, h2, h3, h4, h5, hZ, hF, hS⟩ := h
  cases hW : isW x
  · rw [doA_not ad 4 hW]
    obtain ⟨A1, l1, c1, A2, l2, c2, A3, l3, c3, A4, l4, c4, A5, l5, c5, rfl⟩ := h2.form
    refine (RWrite_not x p hW).mono ?_
    rintro e w' ⟨rfl, hb⟩
    exact ⟨_, rfl, RS.doc h1 h5 hZ hF hS hb ((h2.below hb).mono (fun b hz => .inl hz)) h3 (h4.more (by omega))⟩
  · obtain ⟨k, rfl, hk⟩ := isW_is hW
    rw [doA_nat ad 4 hk]
    refine (RWrite_yes h2 (fun b hz => h1.lt (.inl hz)) h3 h4 (by omega) k hk p).mono ?_
    rintro e w' ⟨V', y', rfl, g1, g2, g3, hb⟩
    exact ⟨V', rfl, RS.doc h1 h5 hZ hF hS hb g1 g2 (g3.more (by omega))⟩
/-- Another kind of deed does nothing. -/
theorem doA_else (a : AX) {kd : Int} (k0 : kd ≠ 0) (k1 : kd ≠ 1) (k2 : kd ≠ 2) (k3 : kd ≠ 3) (k4 : kd ≠ 4) (x p : Int) : doA a ((kd, x), p) = (a, true) := by
  cases hW : isW x
  · exact doA_not a kd hW p
  · obtain ⟨k, rfl, hk⟩ := isW_is hW
    rw [doA_nat a kd hk, if_neg k0, if_neg k1, if_neg k2, if_neg k3, if_neg k4]
/-- The program's deed. -/
theorem do_rs (h : RS w0 n B a D Vb Vd m ad F w) (hn : n < 90000) (d : D3) (hp : IsI d.2) : Calls Try.prog 15 #[.pointer (some ⟨B, 0, none⟩), D3V d] w fun e w' => e = .returned (.bool (doA a d).2) ∧ RS w0 (n + 3) B (doA a d).1 D Vb Vd m ad F w' := by
  obtain ⟨Z, y, h1, h2, h3, h4, h5, hZ, hF, hS⟩ := h
  refine (do_w3 h1 hn d hp).mono ?_
  rintro e w' ⟨rfl, g1, g2⟩
  exact ⟨rfl, RS.prog h2 h3 h4 h5 hZ hF hS g1 g2⟩
/-- Both clocks, and both lists of clashes. -/
theorem PClock_rs (h : RS w0 n B a D Vb Vd m ad F w) (x : Int) : Calls Try.prog 17 #[.pointer (some ⟨B, 0, none⟩), .int .i64 x] w (TellI (ckL a x) w) := by
  obtain ⟨Z, y, ⟨Z', ρ, X, hR, rfl, rfl, _⟩, _⟩ := h
  cases hW : isW x
  · rw [ckL_not _ hW]
    refine (Clock_not X.B x hW w).mono ?_
    rintro e w' ⟨rfl, rfl⟩
    exact ⟨_, rfl, Below.refl _ _, none, 0, rfl, fun k z h => by cases h⟩
  · obtain ⟨k, rfl, hk⟩ := isW_is hW
    rw [ckL_nat _ hk]
    refine (Clock_any hR k hk).mono ?_
    rintro e w' ⟨A, c, rfl, hr, _, _, _, hb⟩
    exact ⟨_, rfl, hb, A, c, rfl, hr⟩
theorem RClock_rs (h : RS w0 n B a D Vb Vd m ad F w) (x : Int) : Calls Try.prog 18 #[Vd, .int .i64 x] w (TellI (ckL ad x) w) := by
  obtain ⟨Z, y, h1, h2, h3, _⟩ := h
  cases hW : isW x
  · rw [ckL_not _ hW]
    obtain ⟨A1, l1, c1, A2, l2, c2, A3, l3, c3, A4, l4, c4, A5, l5, c5, rfl⟩ := h2.form
    refine (RClock_not x hW).mono ?_
    rintro e w' ⟨rfl, hb⟩
    exact ⟨_, rfl, hb, none, 0, rfl, fun k z h => by cases h⟩
  · obtain ⟨k, rfl, hk⟩ := isW_is hW
    rw [ckL_nat _ hk]
    obtain ⟨A1, c1, A2, c2, A3, c3, A4, c4, A5, c5, rfl, hy⟩ := h2
    refine (RClock_yes hy rfl k hk).mono ?_
    rintro e w' ⟨v, zs, rfl, ⟨A, c, rfl, hr, _, hz⟩, hn, hb⟩
    rw [hn, h3.ck k hk] at hz
    exact ⟨_, rfl, hb, A, c, by rw [← hz], by rw [← hz]; exact hr.rd⟩
theorem PClashes_rs (h : RS w0 n B a D Vb Vd m ad F w) (hn : n ≤ 100000) : Calls Try.prog 20 #[.pointer (some ⟨B, 0, none⟩)] w (ClOut a.cl w) := by
  obtain ⟨Z, y, ⟨Z', ρ, X, hR, rfl, rfl, _⟩, _⟩ := h
  exact Clashes_any hR hn
theorem RS.clashes (h : RS w0 n B a D Vb Vd m ad F w) : ∃ A1 l1 c1 A2 l2 c2 A3 l3 c3 A4 l4 c4 A5 c5, Vd = .agg #[.slice A1 l1 c1, .slice A2 l2 c2, .slice A3 l3 c3, .slice A4 l4 c4, .slice A5 ad.cl.length c5] ∧ RdC w A5 ad.cl ∧ ad.cl.length ≤ 1000 := by
  obtain ⟨Z, y, h1, ⟨A1, c1, A2, c2, A3, c3, A4, c4, A5, c5, rfl, hy⟩, h3, _⟩ := h
  refine ⟨A1, _, c1, A2, _, c2, A3, _, c3, A4, _, c4, A5, c5, by rw [← h3.cl], ?_, ?_⟩
  · rw [← h3.cl]
    intro k u hk
    obtain ⟨b, off, e, g1, _, g2⟩ := hy.cl k u hk
    exact ⟨b, off, e, g1, g2⟩
  · rw [← h3.cl]
    exact hy.few.2.2.2.2
end
end Go.Proofs.Ytdgmcaehadigaaa
