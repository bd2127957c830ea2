/- race's has, Clock, Load, Store, Swap, by contract. -/
import Derived.Test.YtdgmcaehadigaaaRacAt
import Derived.Deep.RegionHeld3
import Derived.Deep.DeepCutAuto
import Derived.Handy
namespace Go.Proofs.Ytdgmcaehadigaaa
open Go.RowKit

/-- Is there such a worker? -/
def isW (x : Int) : Bool := decide (0 ≤ x ∧ x ≤ 64)

theorem has_any (b : Nat) (x : Int) (w : World) : Calls Try.prog 83 #[.pointer (some ⟨b, 0, none⟩), .int .i64 x] w fun e w' => e = .returned (.bool (isW x)) ∧ w = w' := by
  by_cases h1 : 0 ≤ x
  · by_cases h2 : x ≤ 64
    · have h3 : x < 65 := by omega
      have hr : isW x = true := decide_eq_true ⟨h1, h2⟩
      have HR := Lib.hid hr
      clear hr h2
      go_enter Try.func83, Try.ntmps83
      go_wp2
      go_ret
      exact ⟨ret_bool HR.out.symm, rfl⟩
    · have h3 : ¬ x < 65 := by omega
      have hr : isW x = false := decide_eq_false (fun h => h2 h.2)
      have HR := Lib.hid hr
      clear hr h2
      go_enter Try.func83, Try.ntmps83
      go_wp2
      go_ret
      exact ⟨ret_bool (by rw [HR.out]), rfl⟩
  · have hr : isW x = false := decide_eq_false (fun h => h1 h.1)
    have HR := Lib.hid hr
    clear hr
    go_enter Try.func83, Try.ntmps83
    go_wp2
    go_ret
    exact ⟨ret_bool (by rw [HR.out]), rfl⟩
theorem has_nil (x : Int) (w : World) : Calls Try.prog 83 #[.pointer none, .int .i64 x] w fun e w' => e = .returned (.bool false) ∧ w = w' := by
  go_enter Try.func83, Try.ntmps83
  go_wp2
  go_ret
  exact ⟨rfl, rfl⟩

/-- Behind a load. -/
def loadA (a : AX) (k : Nat) (p : Int) : AX := { a with N := updN a.N k (joinN (a.N k) (a.pn p)) }
def storeA (a : AX) (k : Nat) (p : Int) : AX := { a with pn := updI a.pn p (a.N k), N := updN a.N k (tickN (a.N k) k) }

/-- Behind something that is done to a watch: it lies where it lay, or in new memory as well, and tells what a says. -/
def RacOut (w : World) (Z : Nat → Prop) (m : Nat) (ρ : Nat → Int × Int) (X : RX) (a : AX) (w' : World) : Prop :=
  ∃ ρ' X', Rac w' (fun b => Z b ∨ Owned ρ' b) m ρ' X' ∧ X'.a = a ∧ X'.B = X.B ∧ Chg (Owned ρ) w w' ∧ (∀ b, Owned ρ' b → Owned ρ b ∨ w.heap.size ≤ b) ∧ ∀ d p, X.dp d = some p → X'.dp d = some p

theorem zero_i64 (w : World) : (zeroValue 3).run Try.prog w = .ok (.int .i64 0) w := by kernel_rfl
theorem zero_ints (w : World) : (zeroValue 38).run Try.prog w = .ok (.slice none 0 0) w := by kernel_rfl
theorem zero_notes (w : World) : (zeroValue 168).run Try.prog w = .ok nilP w := by kernel_rfl

section
variable {w : World} {Z : Nat → Prop} {n : Nat} {ρ : Nat → Int × Int} {X : RX}
/-- A worker's clock has turned. -/
theorem Rac.worker {w' : World} (h : Rac w Z n ρ X) (hb : Below w.heap.size w w') (k : Nat) (hk : k < 65) (v : Value) (N : List Int) (hv : Clk w' Z v N) :
    Rac (w'.setCell ⟨X.B, k, none⟩ v) Z n ρ { X with V := updN X.V k v, a := { X.a with N := updN X.a.N k N } } := by
  have h' := h.later hb
  have hcB : (ρ X.B).1 ≠ 0 := by rw [h.rB]; decide
  have hch : Chg (fun b => b = X.B) w' (w'.setCell ⟨X.B, k, none⟩ v) := Chg.setCell (M := fun b => b = X.B) Chg.refl rfl v
  have hMZ : ∀ b, b = X.B → Z b ∨ w'.heap.size ≤ b := fun b e => .inl (e ▸ (h'.own X.B hcB).2)
  have q : ∀ b, (ρ b).1 ≠ 1 → (w'.setCell ⟨X.B, k, none⟩ v).heap[b]? = w'.heap[b]? := fun b hb => Below.heap_setCell _ _ _ _ (fun e => hb (by rw [e]; show (ρ X.B).1 = 1; rw [h.rB]))
  have o : ∀ j, k ≠ j → (w'.setCell ⟨X.B, k, none⟩ v).cell? ⟨X.B, j, none⟩ = w'.cell? ⟨X.B, j, none⟩ := fun j hj => World.cell?_setCell_other _ _ _ _ (fun e => hj (by injection e))
  have f : ∀ j, (w'.setCell ⟨X.B, k, none⟩ v).frozen? ⟨X.B, j, none⟩ = w'.frozen? ⟨X.B, j, none⟩ := fun j => World.frozen?_setCell _ _ _ _
  refine {
    own := fun b hb => ⟨by rw [World.size_setCell]; exact (h'.own b hb).1, (h'.own b hb).2⟩, zlt := fun b hb => (by rw [World.size_setCell]; exact h'.zlt b hb), rB := h.rB, rp := h.rp, rd := h.rd, wk := fun j hj => ?_, ck := fun j hj => ?_,
    c65 := (o 65 (by omega)).trans h'.c65, c66 := (o 66 (by omega)).trans h'.c66, c67 := ⟨(o 67 (by omega)).trans h'.c67.1, (f 67).trans h'.c67.2⟩,
    pm := h'.pm.same (q _ (by rw [h.rp]; decide)), pk := fun j hj => (h'.pk j hj).chg hch hMZ (fun _ e => .inl e), dm := h'.dm.same (q _ (by rw [h.rd]; decide)),
    dt := fun j hj => (h'.dt j hj).same (Nat.le_refl _) (fun b e => ⟨q b (by rcases e with e | e <;> rw [e] <;> simp), rfl⟩) rfl rfl rfl rfl,
    cr := ownsRow_same h'.cr (fun g hg => q g (by rw [h.co g hg]; decide)), co := h.co, cn := h.cn }
  · refine ⟨?_, (f j).trans (h'.wk j hj).2⟩
    show _ = some (updN X.V k v j)
    unfold updN
    by_cases e : j = k
    · subst e
      rw [if_pos rfl]
      exact World.cell?_setCell_same _ _ _ (h'.wk j hj).1
    · rw [if_neg e, o j (fun e2 => e e2.symm)]
      exact (h'.wk j hj).1
  · show Clk _ Z (updN X.V k v j) (updN X.a.N k N j)
    unfold updN
    by_cases e : j = k
    · rw [if_pos e, if_pos e]
      exact hv.chg hch hMZ (fun _ e => .inl e)
    · rw [if_neg e, if_neg e]
      exact (h'.ck j hj).chg hch hMZ (fun _ e => .inl e)

/-- The same watch, in its own words. -/
theorem Rac.out {w' : World} {m : Nat} {X' : RX} (h' : Rac w' Z m ρ X') (hB : X'.B = X.B) (hd : X'.dp = X.dp) (hc : Chg (Owned ρ) w w') : RacOut w Z m ρ X X'.a w' := by
  refine ⟨ρ, X', ?_, rfl, hB, hc, fun b hb => .inl hb, fun d p h => by rw [hd]; exact h⟩
  exact h'.chg (M := fun _ => False) Chg.refl (fun _ e => e.elim) (fun _ e => e.elim) (fun _ e => .inr e) (fun b e => e.elim .inl (fun e => .inl (h'.own b e).2)) (fun b e => e.elim (h'.zlt b) (fun e => (h'.own b e).1))
end

/-- A worker's clock, as it lies. -/
theorem Rac.clock {w : World} {Z : Nat → Prop} {n : Nat} {ρ : Nat → Int × Int} {X : RX} (h : Rac w Z n ρ X) (k : Nat) (hk : k < 65) :
    ∃ (A : Option Addr) (zs : List Int) (c : Nat), X.V k = .slice A zs.length c ∧ numL zs = X.a.N k ∧ zs.length ≤ 65 ∧ Rd (Value.int .i64) w w.heap.size A zs := by
  obtain ⟨A, zs, c, h1, h2, h3, h4⟩ := h.ck k hk
  exact ⟨A, zs, c, h1, h2, h3, fun j z hj => by
    obtain ⟨b, off, e1, e2, _, e4⟩ := h4 j z hj
    exact ⟨b, off, e1, e2, e4⟩⟩
theorem isW_nat {k : Nat} (hk : k < 65) : isW (k : Int) = true := decide_eq_true ⟨by omega, by omega⟩

theorem Clock_any {w : World} {Z : Nat → Prop} {n : Nat} {ρ : Nat → Int × Int} {X : RX} (h : Rac w Z n ρ X) (k : Nat) (hk : k < 65) :
    Calls Try.prog 17 #[.pointer (some ⟨X.B, 0, none⟩), .int .i64 (k : Int)] w (IntsOut (shortL (X.a.N k)) w) := by
  obtain ⟨A, zs, c, hV, hN, hl, hr⟩ := h.clock k hk
  have hc := (h.wk k hk).1
  rw [hV] at hc
  have HQ := Lib.hid (Short_any A zs c w hr (by omega))
  rw [hN] at HQ
  have HW := Lib.hid (isW_nat hk)
  have hk0 : (0 : Int) ≤ (k : Int) := by omega
  have hk1 : (k : Int) < 65 := by omega
  clear hr hN hV h
  go_enter Try.func17, Try.ntmps17
  go_wp2_with fail
  refine (has_any _ _ _).mono ?_
  rw [HW.out]
  rintro e w' ⟨rfl, rfl⟩
  go_wp2_with fail
  refine HQ.out.mono ?_
  rintro e w2 ⟨A2, c2, rfl, hr, h2, h3, h4, hb2⟩
  have HO := Lib.hid (show IntsOut (shortL (X.a.N k)) w (.returned (.slice A2 (shortL (X.a.N k)).length c2)) w2 from ⟨A2, c2, rfl, hr, h2, h3, h4, hb2⟩)
  clear hr h2 h3 h4 hb2 HQ
  go_wp2
  go_ret
  exact HO.out
theorem Clock_not (b : Nat) (x : Int) (hx : isW x = false) (w : World) :
    Calls Try.prog 17 #[.pointer (some ⟨b, 0, none⟩), .int .i64 x] w fun e w' => e = .returned (.slice none 0 0) ∧ w = w' := by
  have HW := Lib.hid hx
  clear hx
  go_enter Try.func17, Try.ntmps17
  go_wp2_with fail
  refine (has_any _ _ _).mono ?_
  rw [HW.out]
  rintro e w' ⟨rfl, rfl⟩
  go_wp2
  go_ret
  exact ⟨rfl, rfl⟩

set_option maxRecDepth 100000 in
set_option maxHeartbeats 4000000 in
theorem Load_any {w : World} {Z : Nat → Prop} {n : Nat} {ρ : Nat → Int × Int} {X : RX} (h : Rac w Z n ρ X) (k : Nat) (hk : k < 65) (p : Int) (hp : IsI p) :
    Calls Try.prog 69 #[.pointer (some ⟨X.B, 0, none⟩), .int .i64 (k : Int), .int .i64 p] w fun e w' => e = .returned (.tuple #[]) ∧ RacOut w Z (n + 1) ρ X (loadA X.a k p) w' := by
  obtain ⟨A, zs, c, hV, hN, hl, hr⟩ := h.clock k hk
  obtain ⟨A2, ys, c2, hV2, hN2, hl2, hr2⟩ := h.pk p hp
  have hr2' : Rd (Value.int .i64) w w.heap.size A2 ys := fun j z hj => by
    obtain ⟨b, off, e1, e2, _, e4⟩ := hr2 j z hj
    exact ⟨b, off, e1, e2, e4⟩
  have hc := (h.wk k hk).1
  rw [hV] at hc
  have h65 := h.c65
  have hBl := (h.own X.B (by rw [h.rB]; decide)).1
  have hlk : (Instr.lookup 121 (.map (some X.bp)) (.int .i64 p) false).run Try.prog w.drew = .ok (.slice A2 ys.length c2) w.drew := by
    have := (h.pm.same (w' := w.drew) rfl).look Try.underlying121 (zero_ints _) hp
    rw [hV2] at this
    exact this
  have HJ : Hid (∀ W, Below w.heap.size w W → Calls Try.prog 111 #[.slice A zs.length c, .slice A2 ys.length c2] W fun e w' => ∃ A3 m3 c3, e = .returned (.slice A3 m3 c3) ∧ Clk w' Z (.slice A3 m3 c3) (joinN (X.a.N k) (X.a.pn p)) ∧ Below w.heap.size w w') := Lib.hid fun W hb =>
    (Join_new A A2 zs ys c c2 W ((hr.below hb).more hb.size) ((hr2'.below hb).more hb.size) (by omega) (by omega)).mono fun e w' hq => by
      obtain ⟨A3, c3, he, h3, hb3⟩ := hq
      refine ⟨_, _, _, he, ?_, hb.trans (hb3.mono hb.size)⟩
      have := Clk.of_new (Z := Z) (fun b e => Nat.lt_of_lt_of_le (h.zlt b e) hb.size) (show IntsNew _ W (.returned (.slice A3 _ c3)) w' from ⟨A3, c3, rfl, h3, hb3⟩) (shortL_le _)
      rw [numL_short (joinN_num (numL_num zs))] at this
      rw [← hN, ← hN2]
      exact this
  have HF := Lib.hid (fun W (hb : Below w.heap.size w W) => (hb.frozen (p := ⟨X.B, k, none⟩) hBl).trans (h.wk k hk).2)
  have HC := Lib.hid (fun W (hb : Below w.heap.size w W) => (hb.cell (p := ⟨X.B, k, none⟩) hBl).trans hc)
  have hX0 := (Below.refl w.heap.size w).drew
  have HW := Lib.hid (isW_nat hk)
  have hk0 : (0 : Int) ≤ (k : Int) := by omega
  have hk1 : (k : Int) < 65 := by omega
  have HH := Lib.hid h
  clear hr hr2 hr2' hN hN2 hV hV2 h
  go_enter Try.func69, Try.ntmps69
  go_wp2_with fail
  refine (has_any _ _ _).mono ?_
  rw [HW.out]
  rintro e w' ⟨rfl, rfl⟩
  go_upto_region 1 with (fail)
  go_region_with (first | (go_at_call 111; refine Calls.mono (HJ.out _ hX0) ?_; rintro e W1 ⟨A3, m3, c3, rfl, hv, hb1⟩; have q0 := HC.out _ hb1; have q1 := HF.out _ hb1))
  all_goals
    have hch : Chg (Owned ρ) w (W1.setCell ⟨X.B, k, none⟩ (.slice A3 m3 c3)) := (Chg.of_below hb1).setCell (show (ρ X.B).1 ≠ 0 by rw [HH.out.rB]; decide) _
    exact bodyPost_end (results_none rfl _ _ _) rfl ⟨rfl, ((HH.out.worker hb1 k hk _ _ hv).more (Nat.le_succ n)).out rfl rfl hch⟩

/-- An atomic place tells another clock. -/
theorem Rac.place {w w' : World} {Z : Nat → Prop} {n : Nat} {ρ : Nat → Int × Int} {X : RX} (h : Rac w Z n ρ X) (hc : Chg (fun b => b = X.bp) w w') (p : Int) (v : Value) (N : List Int) (hm : MapV w' X.bp (n + 1) (.slice none 0 0) (putV X.pv p v)) (hv : Clk w Z v N) :
    Rac w' Z (n + 1) ρ { X with pv := putV X.pv p v, a := { X.a with pn := updI X.a.pn p N } } := by
  have hoB : (ρ X.bp).1 ≠ 0 := by rw [h.rp]; decide
  have hMZ : ∀ b, b = X.bp → Z b ∨ w.heap.size ≤ b := fun b e => .inl (e ▸ (h.own X.bp hoB).2)
  have q : ∀ b, (ρ b).1 ≠ 0 → (ρ b).1 ≠ 2 → w'.heap[b]? = w.heap[b]? := fun b h0 hb => hc.block b (h.own b h0).1 (fun e => hb (by rw [e]; show (ρ X.bp).1 = 2; rw [h.rp]))
  have qB : w'.heap[X.B]? = w.heap[X.B]? := q X.B (by rw [h.rB]; decide) (by rw [h.rB]; decide)
  have cB : ∀ o, w'.cell? ⟨X.B, o, none⟩ = w.cell? ⟨X.B, o, none⟩ := fun o => World.cell?_of_block (w := w) qB
  have fB : ∀ o, w'.frozen? ⟨X.B, o, none⟩ = w.frozen? ⟨X.B, o, none⟩ := fun o => World.frozen?_of_block (w := w) qB
  refine {
    own := fun b hb => ⟨Nat.lt_of_lt_of_le (h.own b hb).1 hc.size, (h.own b hb).2⟩, zlt := fun b hb => Nat.lt_of_lt_of_le (h.zlt b hb) hc.size, rB := h.rB, rp := h.rp, rd := h.rd,
    wk := fun j hj => ⟨(cB j).trans (h.wk j hj).1, (fB j).trans (h.wk j hj).2⟩, ck := fun j hj => (h.ck j hj).chg hc hMZ (fun _ e => .inl e),
    c65 := (cB 65).trans h.c65, c66 := (cB 66).trans h.c66, c67 := ⟨(cB 67).trans h.c67.1, (fB 67).trans h.c67.2⟩,
    pm := hm, pk := fun j hj => ?_, dm := (h.dm.same (q _ (by rw [h.rd]; decide) (by rw [h.rd]; decide))).mono (Nat.le_succ n),
    dt := fun j hj => (h.dt j hj).same (Nat.le_succ n) (fun b e => ⟨q b (by rcases e with e | e <;> rw [e] <;> simp) (by rcases e with e | e <;> rw [e] <;> simp), rfl⟩) rfl rfl rfl rfl,
    cr := ownsRow_same h.cr (fun g hg => q g (by rw [h.co g hg]; decide) (by rw [h.co g hg]; decide)), co := h.co, cn := Nat.le_succ_of_le h.cn }
  show Clk w' Z (putV X.pv p v j) (updI X.a.pn p N j)
  unfold putV updI
  by_cases e : j = p
  · rw [if_pos e, if_pos e]
    exact hv.chg hc hMZ (fun _ e => .inl e)
  · rw [if_neg e, if_neg e]
    exact (h.pk j hj).chg hc hMZ (fun _ e => .inl e)

set_option maxRecDepth 100000 in
set_option maxHeartbeats 4000000 in
theorem Store_any {w : World} {Z : Nat → Prop} {n : Nat} {ρ : Nat → Int × Int} {X : RX} (h : Rac w Z n ρ X) (hn : n < 100000) (k : Nat) (hk : k < 65) (p : Int) (hp : IsI p) :
    Calls Try.prog 68 #[.pointer (some ⟨X.B, 0, none⟩), .int .i64 (k : Int), .int .i64 p] w fun e w' => e = .returned (.tuple #[]) ∧ RacOut w Z (n + 1) ρ X (storeA X.a k p) w' := by
  obtain ⟨A, zs, c, hV, hN, hl, hr⟩ := h.clock k hk
  have hc := (h.wk k hk).1
  rw [hV] at hc
  have h65 := h.c65
  obtain ⟨wu, hrun, hmap, hturn⟩ := (h.pm.same (w' := w.drew) rfl).put Try.underlying121 (by unfold maxLen; omega) hp (.slice A zs.length c)
  have hcu : Chg (fun b => b = X.bp) w wu := (Chg.drew Chg.refl).turned rfl hturn
  have h1 := h.place hcu p _ _ hmap (hV ▸ h.ck k hk)
  have hOw : Chg (Owned ρ) w wu := hcu.mono (fun b e => by rw [e]; show (ρ X.bp).1 ≠ 0; rw [h.rp]; decide)
  obtain ⟨A2, ys, c2, hV2, hN2, hl2, hr2⟩ := h1.clock k hk
  have hu := (h1.wk k hk).1
  rw [hV2] at hu
  have hBl := (h1.own X.B (by rw [h.rB]; decide)).1
  have HT : Hid (∀ W, Below wu.heap.size wu W → Calls Try.prog 70 #[.slice A2 ys.length c2, .int .i64 (k : Int)] W fun e w' => ∃ A3 m3 c3, e = .returned (.slice A3 m3 c3) ∧ Clk w' Z (.slice A3 m3 c3) (tickN (X.a.N k) k) ∧ Below wu.heap.size wu w') := Lib.hid fun W hb =>
    (Tick_new A2 ys c2 k W ((hr2.below hb).more hb.size) (by omega)).mono fun e w' hq => by
      obtain ⟨A3, c3, he, h3, hb3⟩ := hq
      refine ⟨_, _, _, he, ?_, hb.trans (hb3.mono hb.size)⟩
      have := Clk.of_new (Z := Z) (fun b e => Nat.lt_of_lt_of_le (h1.zlt b e) hb.size) (show IntsNew _ W (.returned (.slice A3 _ c3)) w' from ⟨A3, c3, rfl, h3, hb3⟩) (shortL_le _)
      rw [numL_short (tickN_num (numL_num ys) _)] at this
      have hN3 : numL ys = X.a.N k := hN2
      rw [← hN3]
      exact this
  have HF := Lib.hid (fun W (hb : Below wu.heap.size wu W) => (hb.frozen (p := ⟨X.B, k, none⟩) hBl).trans (h1.wk k hk).2)
  have HC := Lib.hid (fun W (hb : Below wu.heap.size wu W) => (hb.cell (p := ⟨X.B, k, none⟩) hBl).trans hu)
  have hX0 := (Below.refl wu.heap.size wu).drew
  have HW := Lib.hid (isW_nat hk)
  have hk0 : (0 : Int) ≤ (k : Int) := by omega
  have hk1 : (k : Int) < 65 := by omega
  have HH := Lib.hid h1
  have HO := Lib.hid hOw
  have HE : Hid (∀ b, Owned ρ b → Owned ρ b) := Lib.hid fun _ e => e
  clear h h1 hOw hcu hturn hmap hr hr2 hN hN2 hV hV2
  go_enter Try.func68, Try.ntmps68
  go_wp2_with fail
  refine (has_any _ _ _).mono ?_
  rw [HW.out]
  rintro e w' ⟨rfl, rfl⟩
  go_upto_region 1 with (fail)
  go_region
  go_upto_region 2 with (fail)
  go_region_with (first | (go_at_call 70; refine Calls.mono (HT.out _ hX0) ?_; rintro e W1 ⟨A3, m3, c3, rfl, hv, hb1⟩; have q0 := HC.out _ hb1; have q1 := HF.out _ hb1))
  all_goals
    have hch : Chg (Owned ρ) w (W1.setCell ⟨X.B, k, none⟩ (.slice A3 m3 c3)) := HO.out.trans (M' := Owned ρ) ((Chg.of_below hb1).setCell (show (ρ X.B).1 ≠ 0 by rw [HH.out.rB]; decide) _) (fun _ e => .inl e)
    exact bodyPost_end (results_none rfl _ _ _) rfl ⟨rfl, (HH.out.worker hb1 k hk _ _ hv).out rfl rfl hch⟩

/-- One thing behind another. -/
theorem RacOut.next {w w1 w2 : World} {Z : Nat → Prop} {m m2 : Nat} {ρ ρ1 : Nat → Int × Int} {X X1 : RX} {a : AX} (h1 : Rac w1 (fun b => Z b ∨ Owned ρ1 b) m ρ1 X1) (hB : X1.B = X.B) (hc : Chg (Owned ρ) w w1) (ho : ∀ b, Owned ρ1 b → Owned ρ b ∨ w.heap.size ≤ b) (hd : ∀ d p, X.dp d = some p → X1.dp d = some p)
    (h : RacOut w1 (fun b => Z b ∨ Owned ρ1 b) m2 ρ1 X1 a w2) : RacOut w Z m2 ρ X a w2 := by
  obtain ⟨ρ2, X2, h2, ha2, hB2, hc2, ho2, hd2⟩ := h
  refine ⟨ρ2, X2, ?_, ha2, hB2.trans hB, hc.trans hc2 ho, fun b e => (ho2 b e).elim (ho b) (fun h => .inr (Nat.le_trans hc.size h)), fun d p e => hd2 d p (hd d p e)⟩
  refine h2.chg (M := fun _ => False) Chg.refl (fun _ e => e.elim) (fun _ e => e.elim) (fun b e => .inr e) (fun b e => .inl (e.elim (fun e => .inl (.inl e)) .inr)) (fun b e => ?_)
  rcases e with e | e
  · exact Nat.lt_of_lt_of_le (h1.zlt b (.inl e)) hc2.size
  · exact (h2.own b e).1

theorem Load_not (b : Nat) (x p : Int) (hx : isW x = false) (w : World) :
    Calls Try.prog 69 #[.pointer (some ⟨b, 0, none⟩), .int .i64 x, .int .i64 p] w fun e w' => e = .returned (.tuple #[]) ∧ w = w' := by
  have HW := Lib.hid hx
  clear hx
  go_enter Try.func69, Try.ntmps69
  go_wp2_with fail
  refine (has_any _ _ _).mono ?_
  rw [HW.out]
  rintro e w' ⟨rfl, rfl⟩
  go_wp2
  exact bodyPost_end (results_none rfl _ _ _) rfl ⟨rfl, rfl⟩
theorem Store_not (b : Nat) (x p : Int) (hx : isW x = false) (w : World) :
    Calls Try.prog 68 #[.pointer (some ⟨b, 0, none⟩), .int .i64 x, .int .i64 p] w fun e w' => e = .returned (.tuple #[]) ∧ w = w' := by
  have HW := Lib.hid hx
  clear hx
  go_enter Try.func68, Try.ntmps68
  go_wp2_with fail
  refine (has_any _ _ _).mono ?_
  rw [HW.out]
  rintro e w' ⟨rfl, rfl⟩
  go_wp2
  exact bodyPost_end (results_none rfl _ _ _) rfl ⟨rfl, rfl⟩
theorem Store_nil (x p : Int) (w : World) :
    Calls Try.prog 68 #[.pointer none, .int .i64 x, .int .i64 p] w fun e w' => e = .returned (.tuple #[]) ∧ w = w' := by
  go_enter Try.func68, Try.ntmps68
  go_wp2_with fail
  refine (has_nil _ _).mono ?_
  rintro e w' ⟨rfl, rfl⟩
  go_wp2
  exact bodyPost_end (results_none rfl _ _ _) rfl ⟨rfl, rfl⟩

def swapA (a : AX) (k : Nat) (p : Int) : AX := storeA (loadA a k p) k p
theorem Swap_any {w : World} {Z : Nat → Prop} {n : Nat} {ρ : Nat → Int × Int} {X : RX} (h : Rac w Z n ρ X) (hn : n < 99999) (k : Nat) (hk : k < 65) (p : Int) (hp : IsI p) :
    Calls Try.prog 82 #[.pointer (some ⟨X.B, 0, none⟩), .int .i64 (k : Int), .int .i64 p] w fun e w' => e = .returned (.tuple #[]) ∧ RacOut w Z (n + 1 + 1) ρ X (swapA X.a k p) w' := by
  have HL := Lib.hid (Load_any h k hk p hp)
  have HS : Hid (∀ {w1 : World} {Z1 : Nat → Prop} {ρ1 : Nat → Int × Int} {X1 : RX}, Rac w1 Z1 (n + 1) ρ1 X1 → X1.B = X.B → Calls Try.prog 68 #[.pointer (some ⟨X.B, 0, none⟩), .int .i64 (k : Int), .int .i64 p] w1 fun e w' => e = .returned (.tuple #[]) ∧ RacOut w1 Z1 (n + 1 + 1) ρ1 X1 (storeA X1.a k p) w') :=
    Lib.hid fun h1 hB => hB ▸ Store_any h1 (by omega) k hk p hp
  clear h
  go_enter Try.func82, Try.ntmps82
  go_wp2_with fail
  refine HL.out.mono ?_
  rintro e w1 ⟨rfl, hro⟩
  obtain ⟨ρ1, X1, h1, ha, hB, hc, ho, hd⟩ := hro
  have HT := Lib.hid (HS.out h1 hB)
  have HN : Hid (∀ w2, RacOut w1 (fun b => Z b ∨ Owned ρ1 b) (n + 1 + 1) ρ1 X1 (storeA X1.a k p) w2 → RacOut w Z (n + 1 + 1) ρ X (swapA X.a k p) w2) := Lib.hid fun w2 h => by
    rw [ha] at h
    exact RacOut.next h1 hB hc ho hd h
  clear h1 ha hB hc ho hd HS HL
  go_wp2_with fail
  refine HT.out.mono ?_
  rintro e w2 ⟨rfl, hro⟩
  have HF := Lib.hid (HN.out w2 hro)
  clear hro HT HN
  go_wp2
  exact bodyPost_end (results_none rfl _ _ _) rfl ⟨rfl, HF.out⟩
theorem Swap_not (b : Nat) (x p : Int) (hx : isW x = false) (w : World) :
    Calls Try.prog 82 #[.pointer (some ⟨b, 0, none⟩), .int .i64 x, .int .i64 p] w fun e w' => e = .returned (.tuple #[]) ∧ w = w' := by
  have HL := Lib.hid (Load_not b x p hx w)
  have HS := Lib.hid (Store_not b x p hx w)
  clear hx
  go_enter Try.func82, Try.ntmps82
  go_wp2_with fail
  refine HL.out.mono ?_
  rintro e w' ⟨rfl, rfl⟩
  go_wp2_with fail
  refine HS.out.mono ?_
  rintro e w' ⟨rfl, rfl⟩
  go_wp2
  exact bodyPost_end (results_none rfl _ _ _) rfl ⟨rfl, rfl⟩

end Go.Proofs.Ytdgmcaehadigaaa
