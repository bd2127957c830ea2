/- race's Read, Write and Clashes, by contract. -/
import Derived.Test.YtdgmcaehadigaaaRacNote
import Derived.Test.YtdgmcaehadigaaaRacNew
namespace Go.Proofs.Ytdgmcaehadigaaa
open Go.RowKit

theorem updI_self {α : Type} (m : Int → α) (x : Int) : updI m x (m x) = m := by
  funext k
  unfold updI
  by_cases e : k = x
  · rw [if_pos e, e]
  · rw [if_neg e]

section
variable {w w1 w2 : World} {Z : Nat → Prop} {n m : Nat} {ρ : Nat → Int × Int} {X : RX} {a : AX} {d : Int} {nb rb : Nat}
/-- What is noted of a place of data has turned. -/
theorem Rac.data (h : Rac w Z n ρ X) (hd : IsI d) (hp : X.dp d = some (nb, rb)) (hc : Chg (fun b => b = nb ∨ b = rb) w w1) {n' : Nat} (hn : n ≤ n') (r t : Int) (f : Int → Int)
    (h0 : w1.cell? ⟨nb, 0, none⟩ = some (.int .i64 r) ∧ w1.frozen? ⟨nb, 0, none⟩ = false) (h1 : w1.cell? ⟨nb, 1, none⟩ = some (.int .i64 t) ∧ w1.frozen? ⟨nb, 1, none⟩ = false) (h2 : w1.cell? ⟨nb, 2, none⟩ = some (.map (some rb)))
    (hm : MapV w1 rb n' (.int .i64 0) (fun j => .int .i64 (f j))) :
    Rac w1 Z n' ρ { X with a := { X.a with wr := updI X.a.wr d r, wt := updI X.a.wt d t, rd := updI X.a.rd d f } } := by
  obtain ⟨r5, r6, _⟩ := (h.dt d hd).some_of hp
  have hMZ : ∀ b, (b = nb ∨ b = rb) → Z b ∨ w.heap.size ≤ b := fun b e => by
    rcases e with rfl | rfl
    · exact .inl (h.own _ (by rw [r5]; simp)).2
    · exact .inl (h.own _ (by rw [r6]; simp)).2
  have q : ∀ b, (ρ b).1 ≠ 0 → ρ b ≠ (5, d) → ρ b ≠ (6, d) → w1.heap[b]? = w.heap[b]? := fun b hb h5 h6 => hc.block b (h.own b hb).1 (fun e => by
    rcases e with rfl | rfl
    · exact h5 r5
    · exact h6 r6)
  have qB : w1.heap[X.B]? = w.heap[X.B]? := q X.B (by rw [h.rB]; decide) (by rw [h.rB]; simp) (by rw [h.rB]; simp)
  have cB : ∀ o, w1.cell? ⟨X.B, o, none⟩ = w.cell? ⟨X.B, o, none⟩ := fun o => World.cell?_of_block (w := w) qB
  have fB : ∀ o, w1.frozen? ⟨X.B, o, none⟩ = w.frozen? ⟨X.B, o, none⟩ := fun o => World.frozen?_of_block (w := w) qB
  refine {
    own := fun b hb => ⟨Nat.lt_of_lt_of_le (h.own b hb).1 hc.size, (h.own b hb).2⟩, zlt := fun b hb => Nat.lt_of_lt_of_le (h.zlt b hb) hc.size, rB := h.rB, rp := h.rp, rd := h.rd,
    wk := fun j hj => ⟨(cB j).trans (h.wk j hj).1, (fB j).trans (h.wk j hj).2⟩, ck := fun j hj => (h.ck j hj).chg hc hMZ (fun _ e => .inl e),
    c65 := (cB 65).trans h.c65, c66 := (cB 66).trans h.c66, c67 := ⟨(cB 67).trans h.c67.1, (fB 67).trans h.c67.2⟩,
    pm := (h.pm.same (q _ (by rw [h.rp]; decide) (by rw [h.rp]; simp) (by rw [h.rp]; simp))).mono hn, pk := fun j hj => (h.pk j hj).chg hc hMZ (fun _ e => .inl e),
    dm := (h.dm.same (q _ (by rw [h.rd]; decide) (by rw [h.rd]; simp) (by rw [h.rd]; simp))).mono hn,
    dt := fun j hj => ?_,
    cr := ownsRow_same h.cr (fun g hg => q g (by rw [h.co g hg]; decide) (fun e => by have := h.co g hg; rw [e] at this; exact absurd this (by simp)) (fun e => by have := h.co g hg; rw [e] at this; exact absurd this (by simp))), co := h.co, cn := Nat.le_trans h.cn hn }
  by_cases e : j = d
  · subst e
    refine .inr ⟨nb, rb, hp, r5, r6, ⟨?_, h0.2⟩, ⟨?_, h1.2⟩, h2, ?_⟩
    · show _ = some (Value.int .i64 (updI X.a.wr j r j))
      rw [updI, if_pos rfl]
      exact h0.1
    · show _ = some (Value.int .i64 (updI X.a.wt j t j))
      rw [updI, if_pos rfl]
      exact h1.1
    · show MapV w1 rb n' _ (fun i => .int .i64 (updI X.a.rd j f j i))
      have : updI X.a.rd j f j = f := if_pos rfl
      rw [this]
      exact hm
  · refine (h.dt j hj).same hn (fun b eb => ?_) rfl ?_ ?_ ?_
    · have hb0 : (ρ b).1 ≠ 0 := by rcases eb with eb | eb <;> rw [eb] <;> simp
      refine ⟨q b hb0 (fun e5 => ?_) (fun e6 => ?_), rfl⟩
      · rcases eb with eb | eb
        · rw [eb] at e5; injection e5 with _ e5; exact e e5
        · rw [eb] at e5; injection e5 with e5 _; exact absurd e5 (by decide)
      · rcases eb with eb | eb
        · rw [eb] at e6; injection e6 with e6 _; exact absurd e6 (by decide)
        · rw [eb] at e6; injection e6 with _ e6; exact e e6
    · show updI X.a.wr d r j = _
      rw [updI, if_neg e]
    · show updI X.a.wt d t j = _
      rw [updI, if_neg e]
    · show updI X.a.rd d f j = _
      rw [updI, if_neg e]

/-- As RacOut, and the place of data d is noted in nb, rb. -/
def NAt (w : World) (Z : Nat → Prop) (m : Nat) (ρ : Nat → Int × Int) (X : RX) (a : AX) (d : Int) (nb rb : Nat) (w' : World) : Prop :=
  ∃ ρ' X', Rac w' (fun b => Z b ∨ Owned ρ' b) m ρ' X' ∧ X'.a = a ∧ X'.B = X.B ∧ Chg (Owned ρ) w w' ∧ (∀ b, Owned ρ' b → Owned ρ b ∨ w.heap.size ≤ b) ∧ (∀ d p, X.dp d = some p → X'.dp d = some p) ∧ X'.dp d = some (nb, rb)
theorem NotesOut.at_ {e : Ending} (h : NotesOut w Z n ρ X d e w1) : ∃ nb rb, e = .returned (.pointer (some ⟨nb, 0, none⟩)) ∧ NAt w Z (n + 1) ρ X X.a d nb rb w1 := by
  obtain ⟨ρ', X', nb, rb, he, hp, hR, ha, hB, hc, ho, hd⟩ := h
  exact ⟨nb, rb, he, ρ', X', hR, ha, hB, hc, ho, hd, hp⟩
theorem NAt.later (h : NAt w Z m ρ X a d nb rb w1) (hb : Below w1.heap.size w1 w2) : NAt w Z m ρ X a d nb rb w2 := by
  obtain ⟨ρ', X', hR, ha, hB, hc, ho, hd, hp⟩ := h
  exact ⟨ρ', X', hR.later hb, ha, hB, hc.trans (M' := fun _ => False) (Chg.of_below hb) (fun _ e => e.elim), ho, hd, hp⟩
theorem NAt.more (h : NAt w Z m ρ X a d nb rb w1) {m' : Nat} (hm : m ≤ m') : NAt w Z m' ρ X a d nb rb w1 := by
  obtain ⟨ρ', X', hR, r⟩ := h
  exact ⟨ρ', X', hR.more hm, r⟩
theorem hiddenWriter_at (h : NAt w Z m ρ X a d nb rb w1) (k : Nat) (hk : k < 65) (hd : IsI d) :
    Calls Try.prog 107 #[.pointer (some ⟨X.B, 0, none⟩), .int .i64 (k : Int), .pointer (some ⟨nb, 0, none⟩)] w1 fun e w' => e = .returned (.tuple #[.int .i64 (a.wr d), .bool (hidW a k d)]) ∧ NAt w Z m ρ X a d nb rb w' := by
  have h' := h
  obtain ⟨ρ', X', hR, rfl, hB, _, _, _, hp⟩ := h
  rw [← hB]
  exact (hiddenWriter_any hR k hk d hd hp).mono fun e w' ⟨he, hb⟩ => ⟨he, h'.later hb⟩
theorem hiddenReader_at (h : NAt w Z m ρ X a d nb rb w1) (k : Nat) (hk : k < 65) (hd : IsI d) :
    Calls Try.prog 108 #[.pointer (some ⟨X.B, 0, none⟩), .int .i64 (k : Int), .pointer (some ⟨nb, 0, none⟩)] w1 fun e w' => e = .returned (.tuple #[.int .i64 (hidR (a.N k) (a.rd d)).1, .bool (hidR (a.N k) (a.rd d)).2]) ∧ w1 = w' := by
  obtain ⟨ρ', X', hR, rfl, hB, _, _, _, hp⟩ := h
  rw [← hB]
  exact hiddenReader_any hR k hk d hd hp
theorem time_at (h : NAt w Z m ρ X a d nb rb w1) (k : Nat) (hk : k < 65) :
    Calls Try.prog 110 #[.pointer (some ⟨X.B, 0, none⟩), .int .i64 (k : Int)] w1 fun e w' => e = .returned (.int .i64 ((a.N k).getD k 0)) ∧ w1 = w' := by
  obtain ⟨ρ', X', hR, rfl, hB, _, _, _, hp⟩ := h
  rw [← hB]
  exact time_any hR k hk
theorem note_at (h : NAt w Z m ρ X a d nb rb w1) (hm : m < 100000) (x y : AccT) :
    Calls Try.prog 109 #[.pointer (some ⟨X.B, 0, none⟩), accV x, accV y] w1 fun e w' => e = .returned (.tuple #[]) ∧ NAt w Z (m + 1) ρ X { a with cl := a.cl ++ [(x, y)] } d nb rb w' := by
  obtain ⟨ρ1, X1, hR, rfl, hB, hc, ho, hd, hp⟩ := h
  rw [← hB]
  refine (note_any hR hm x y).mono fun e w' ⟨he, hro⟩ => ⟨he, ?_⟩
  obtain ⟨ρ2, X2, h2, ha2, hB2, hc2, ho2, hd2⟩ := hro
  refine ⟨ρ2, X2, ?_, ha2, hB2.trans hB, hc.trans hc2 ho, fun b e => (ho2 b e).elim (ho b) (fun h => .inr (Nat.le_trans hc.size h)), fun d p e => hd2 d p (hd d p e), hd2 d _ hp⟩
  refine h2.chg (M := fun _ => False) Chg.refl (fun _ e => e.elim) (fun _ e => e.elim) (fun b e => .inr e) (fun b e => .inl (e.elim (fun e => .inl (.inl e)) .inr)) (fun b e => ?_)
  rcases e with e | e
  · exact Nat.lt_of_lt_of_le (hR.zlt b (.inl e)) hc2.size
  · exact (h2.own b e).1
/-- The end of something that turned what is noted of d. -/
theorem NAt.data (h : NAt w Z m ρ X a d nb rb w1) (hd : IsI d) (hc : Chg (fun b => b = nb ∨ b = rb) w1 w2) {m' : Nat} (hm' : m ≤ m') (r t : Int) (f : Int → Int)
    (h0 : w2.cell? ⟨nb, 0, none⟩ = some (.int .i64 r) ∧ w2.frozen? ⟨nb, 0, none⟩ = false) (h1 : w2.cell? ⟨nb, 1, none⟩ = some (.int .i64 t) ∧ w2.frozen? ⟨nb, 1, none⟩ = false) (h2 : w2.cell? ⟨nb, 2, none⟩ = some (.map (some rb)))
    (hm : MapV w2 rb m' (.int .i64 0) (fun j => .int .i64 (f j))) : RacOut w Z m' ρ X { a with wr := updI a.wr d r, wt := updI a.wt d t, rd := updI a.rd d f } w2 := by
  obtain ⟨ρ1, X1, hR, rfl, hB, hcw, ho, hdp, hp⟩ := h
  obtain ⟨r5, r6, _⟩ := (hR.dt d hd).some_of hp
  have hR2 := hR.data hd hp hc hm' r t f h0 h1 h2 hm
  refine ⟨ρ1, _, hR2, rfl, hB, hcw.trans hc (fun b e => ?_), ho, hdp⟩
  rcases e with rfl | rfl
  · exact ho _ (by unfold Owned; rw [r5]; simp)
  · exact ho _ (by unfold Owned; rw [r6]; simp)
theorem NAt.facts (h : NAt w Z m ρ X a d nb rb w1) (hd : IsI d) : nb < w1.heap.size ∧ nb ≠ rb ∧ (w1.cell? ⟨nb, 0, none⟩ = some (.int .i64 (a.wr d)) ∧ w1.frozen? ⟨nb, 0, none⟩ = false) ∧ (w1.cell? ⟨nb, 1, none⟩ = some (.int .i64 (a.wt d)) ∧ w1.frozen? ⟨nb, 1, none⟩ = false) ∧
      w1.cell? ⟨nb, 2, none⟩ = some (.map (some rb)) ∧ MapV w1 rb m (.int .i64 0) (fun j => .int .i64 (a.rd d j)) := by
  obtain ⟨ρ1, X1, hR, rfl, hB, hcw, ho, hdp, hp⟩ := h
  obtain ⟨r5, r6, h0, h1, h2, h3⟩ := (hR.dt d hd).some_of hp
  exact ⟨World.block_lt_of_cell? _ _ h0.1, fun e => by rw [e, r6] at r5; injection r5 with r5 _; exact absurd r5 (by decide), h0, h1, h2, h3⟩

/-- Behind a read. -/
def readA (a : AX) (k : Nat) (d : Int) : AX :=
  { a with cl := if hidW a k d = true then a.cl ++ [(((a.wr d, d), true), (((k : Int), d), false))] else a.cl, rd := updI a.rd d (updI (a.rd d) k ((a.N k).getD k 0)) }
theorem NAt.read (h : NAt w Z m ρ X a d nb rb w1) (hm : m < 100000) (hd : IsI d) (k : Nat) (hk : k < 65) (t : Int) : ∃ wu, (Instr.mapUpdate 139 (.map (some rb)) (.int .i64 (k : Int)) (.int .i64 t)).run Try.prog w1.drew = .ok () wu ∧
    RacOut w Z (m + 1) ρ X { a with rd := updI a.rd d (updI (a.rd d) k t) } wu := by
  obtain ⟨hl, hne, h0, h1, h2, h3⟩ := h.facts hd
  obtain ⟨wu, hrun, hmap, hturn⟩ := (h3.same (w' := w1.drew) rfl).put Try.underlying139 (by unfold maxLen; omega) (isI_small (x := (k : Int)) (by omega)) (.int .i64 t)
  have hcu : Chg (fun b => b = nb ∨ b = rb) w1 wu := (Chg.drew Chg.refl).turned (.inr rfl) hturn
  have hg := hturn.grown
  have hbl : wu.heap[nb]? = w1.heap[nb]? := hg.block nb hl (fun e => hne (by injection e))
  have c : ∀ o, wu.cell? ⟨nb, o, none⟩ = w1.cell? ⟨nb, o, none⟩ := fun o => World.cell?_of_block (w := w1) hbl
  have f : ∀ o, wu.frozen? ⟨nb, o, none⟩ = w1.frozen? ⟨nb, o, none⟩ := fun o => World.frozen?_of_block (w := w1) hbl
  have hfun : putV (fun j => Value.int .i64 (a.rd d j)) k (.int .i64 t) = fun j => .int .i64 (updI (a.rd d) k t j) := by
    funext j
    unfold putV updI
    by_cases e : j = (k : Int)
    · rw [if_pos e, if_pos e]
    · rw [if_neg e, if_neg e]
  rw [hfun] at hmap
  have := h.data hd hcu (Nat.le_succ m) (a.wr d) (a.wt d) (updI (a.rd d) k t) ⟨(c 0).trans h0.1, (f 0).trans h0.2⟩ ⟨(c 1).trans h1.1, (f 1).trans h1.2⟩ ((c 2).trans h2) hmap
  rw [updI_self, updI_self] at this
  exact ⟨wu, hrun, this⟩

set_option maxRecDepth 100000 in
set_option maxHeartbeats 4000000 in
theorem Read_any (h : Rac w Z n ρ X) (hn : n < 99000) (k : Nat) (hk : k < 65) (d : Int) (hd : IsI d) :
    Calls Try.prog 67 #[.pointer (some ⟨X.B, 0, none⟩), .int .i64 (k : Int), .int .i64 d] w fun e w' => e = .returned (.bool (!hidW X.a k d)) ∧ RacOut w Z (n + 3) ρ X (readA X.a k d) w' := by
  have HN := Lib.hid (notesOf_any h (by omega) d hd)
  have HW := Lib.hid (isW_nat hk)
  have hk0 : (0 : Int) ≤ (k : Int) := by omega
  have hk1 : (k : Int) < 65 := by omega
  go_enter Try.func67, Try.ntmps67
  go_wp2_with fail
  refine (has_any _ _ _).mono ?_
  rw [HW.out]
  rintro e w' ⟨rfl, rfl⟩
  go_wp2_with fail
  refine HN.out.mono ?_
  intro e w1 hno
  obtain ⟨nb, rb, rfl, h1⟩ := hno.at_
  have H1 := Lib.hid (hiddenWriter_at h1 k hk hd)
  clear hno h1 HN h
  go_wp2_with fail
  refine H1.out.mono ?_
  rintro e w2 ⟨rfl, h2⟩
  have HB : Hid (∀ b, hidW X.a k d = b → readA X.a k d = { X.a with cl := if b = true then X.a.cl ++ [(((X.a.wr d, d), true), (((k : Int), d), false))] else X.a.cl, rd := updI X.a.rd d (updI (X.a.rd d) k ((X.a.N k).getD k 0)) }) := Lib.hid fun b hb => by rw [readA, hb]
  obtain ⟨b, hb⟩ : ∃ b, hidW X.a k d = b := ⟨_, rfl⟩
  have HQ := Lib.hid hb
  rw [hb]
  cases b
  · have h3 := h2.more (show n + 1 ≤ n + 2 by omega)
    obtain ⟨_, _, _, _, c2, _⟩ := h3.facts hd
    obtain ⟨wu, hup, hro⟩ := h3.read (by omega) hd k hk ((X.a.N k).getD k 0)
    have HT := Lib.hid (time_at (h3.later (Below.refl _ w2).drew) k hk)
    have HF := Lib.hid hro
    have HBR := Lib.hid (HB.out false hb)
    clear h2 h3 hro H1 hb HB
    generalize (X.a.N k).getD k 0 = t at *
    go_upto_region 7 with (fail)
    go_region_with (first | (go_at_call 110; refine Calls.mono HT.out ?_; rintro e W1 ⟨rfl, rfl⟩))
    all_goals
      clear HT
      go_wp2
      go_ret
      exact ⟨ret_bool (by rw [HQ.out]; rfl), by rw [HBR.out]; exact HF.out⟩
  · have HNT := Lib.hid (note_at h2 (by omega) ((X.a.wr d, d), true) (((k : Int), d), false))
    have HBR := Lib.hid (HB.out true hb)
    have ht : (X.a.N k).getD k 0 = (X.a.N k).getD k 0 := rfl
    clear h2 H1 hb HB ht
    unfold accV at HNT
    go_wp2_with fail
    refine HNT.out.mono ?_
    rintro e w3 ⟨rfl, h3⟩
    obtain ⟨_, _, _, _, c2, _⟩ := h3.facts hd
    obtain ⟨wu, hup, hro⟩ := h3.read (by omega) hd k hk ((X.a.N k).getD k 0)
    have HT := Lib.hid (time_at (h3.later (Below.refl _ w3).drew) k hk)
    have HF := Lib.hid hro
    clear h3 hro HNT
    simp only at HT
    generalize (X.a.N k).getD k 0 = t at *
    go_upto_region 7 with (fail)
    go_region_with (first | (go_at_call 110; refine Calls.mono HT.out ?_; rintro e W1 ⟨rfl, rfl⟩))
    all_goals
      clear HT
      go_wp2
      go_ret
      exact ⟨ret_bool (by rw [HQ.out]; rfl), by rw [HBR.out]; exact HF.out⟩

/-- With what a write clashes, if with anything. -/
def clashW (a : AX) (k : Nat) (d : Int) : Option AccT :=
  if hidW a k d = true then some ((a.wr d, d), true) else if (hidR (a.N k) (a.rd d)).2 = true then some (((hidR (a.N k) (a.rd d)).1, d), false) else none
/-- Behind a write. -/
def writeA (a : AX) (k : Nat) (d : Int) : AX :=
  { a with cl := (match clashW a k d with | some x => a.cl ++ [(x, (((k : Int), d), true))] | none => a.cl), wr := updI a.wr d k, wt := updI a.wt d ((a.N k).getD k 0), rd := updI a.rd d (fun _ => 0) }
theorem NAt.write (h : NAt w Z m ρ X a d nb rb w1) (hd : IsI d) (r t : Int) : ∃ wu, (∀ ty, (Builtin.clear_ #[139] ty #[.map (some rb)]).run Try.prog ((w1.setCell ⟨nb, 0, none⟩ (.int .i64 r)).setCell ⟨nb, 1, none⟩ (.int .i64 t)) = .ok (.tuple #[]) wu) ∧
    ((w1.setCell ⟨nb, 0, none⟩ (.int .i64 r)).setCell ⟨nb, 1, none⟩ (.int .i64 t)).cell? ⟨nb, 2, none⟩ = some (.map (some rb)) ∧ RacOut w Z m ρ X { a with wr := updI a.wr d r, wt := updI a.wt d t, rd := updI a.rd d (fun _ => 0) } wu := by
  obtain ⟨hl, hne, h0, h1, h2, h3⟩ := h.facts hd
  obtain ⟨W4, hW4⟩ : ∃ W4, (w1.setCell ⟨nb, 0, none⟩ (.int .i64 r)).setCell ⟨nb, 1, none⟩ (.int .i64 t) = W4 := ⟨_, rfl⟩
  have hm4 : MapV W4 rb m (.int .i64 0) (fun j => .int .i64 (a.rd d j)) := by
    rw [← hW4]
    exact (h3.same (Below.heap_setCell _ _ _ _ (fun e => hne e.symm))).same (Below.heap_setCell _ _ _ _ (fun e => hne e.symm))
  have ne01 : (⟨nb, 1, none⟩ : Addr) ≠ ⟨nb, 0, none⟩ := fun e => by injection e with _ e; exact absurd e (by decide)
  have ne02 : (⟨nb, 0, none⟩ : Addr) ≠ ⟨nb, 2, none⟩ := fun e => by injection e with _ e; exact absurd e (by decide)
  have ne12 : (⟨nb, 1, none⟩ : Addr) ≠ ⟨nb, 2, none⟩ := fun e => by injection e with _ e; exact absurd e (by decide)
  have d0 : W4.cell? ⟨nb, 0, none⟩ = some (.int .i64 r) := by
    rw [← hW4]
    exact (World.cell?_setCell_other _ _ _ _ ne01).trans (World.cell?_setCell_same _ _ _ h0.1)
  have d1 : W4.cell? ⟨nb, 1, none⟩ = some (.int .i64 t) := by
    rw [← hW4]
    exact World.cell?_setCell_same _ _ _ ((World.cell?_setCell_other _ _ _ _ ne01.symm).trans h1.1)
  have d2 : W4.cell? ⟨nb, 2, none⟩ = some (.map (some rb)) := by
    rw [← hW4]
    exact (World.cell?_setCell_other _ _ _ _ ne12).trans ((World.cell?_setCell_other _ _ _ _ ne02).trans h2)
  have e0 : W4.frozen? ⟨nb, 0, none⟩ = false := by
    rw [← hW4, World.frozen?_setCell, World.frozen?_setCell]
    exact h0.2
  have e1 : W4.frozen? ⟨nb, 1, none⟩ = false := by
    rw [← hW4, World.frozen?_setCell, World.frozen?_setCell]
    exact h1.2
  have hc4 : Chg (fun b => b = nb ∨ b = rb) w1 W4 := by
    rw [← hW4]
    exact Chg.setCell (Chg.setCell (M := fun b => b = nb ∨ b = rb) Chg.refl (.inl rfl) _) (.inl rfl) _
  have hs4 : nb < W4.heap.size := Nat.lt_of_lt_of_le hl hc4.size
  rw [hW4]
  obtain ⟨wu, hrun, hmap, hturn⟩ := hm4.clear Try.underlying139
  have hg := hturn.grown
  have hbl : wu.heap[nb]? = W4.heap[nb]? := hg.block nb hs4 (fun e => hne (by injection e))
  have c : ∀ o, wu.cell? ⟨nb, o, none⟩ = W4.cell? ⟨nb, o, none⟩ := fun o => World.cell?_of_block (w := W4) hbl
  have f : ∀ o, wu.frozen? ⟨nb, o, none⟩ = W4.frozen? ⟨nb, o, none⟩ := fun o => World.frozen?_of_block (w := W4) hbl
  exact ⟨wu, hrun, d2, h.data hd (hc4.turned (.inr rfl) hturn) (Nat.le_refl m) r t (fun _ => 0) ⟨(c 0).trans d0, (f 0).trans e0⟩ ⟨(c 1).trans d1, (f 1).trans e1⟩ ((c 2).trans d2) (hmap.mono (Nat.zero_le m))⟩

set_option maxRecDepth 100000 in
set_option maxHeartbeats 4000000 in
theorem Write_any (h : Rac w Z n ρ X) (hn : n < 99000) (k : Nat) (hk : k < 65) (d : Int) (hd : IsI d) :
    Calls Try.prog 66 #[.pointer (some ⟨X.B, 0, none⟩), .int .i64 (k : Int), .int .i64 d] w fun e w' => e = .returned (.bool (clashW X.a k d).isNone) ∧ RacOut w Z (n + 3) ρ X (writeA X.a k d) w' := by
  have HN := Lib.hid (notesOf_any h (by omega) d hd)
  have HW := Lib.hid (isW_nat hk)
  have hk0 : (0 : Int) ≤ (k : Int) := by omega
  have hk1 : (k : Int) < 65 := by omega
  go_enter Try.func66, Try.ntmps66
  go_wp2_with fail
  refine (has_any _ _ _).mono ?_
  rw [HW.out]
  rintro e w' ⟨rfl, rfl⟩
  go_wp2_with fail
  refine HN.out.mono ?_
  intro e w1 hno
  obtain ⟨nb, rb, rfl, h1⟩ := hno.at_
  have H1 := Lib.hid (hiddenWriter_at h1 k hk hd)
  clear hno h1 HN h
  go_wp2_with fail
  refine H1.out.mono ?_
  rintro e w2 ⟨rfl, h2⟩
  have HB : Hid (∀ x, clashW X.a k d = x → (clashW X.a k d).isNone = x.isNone ∧ writeA X.a k d = { X.a with cl := (match x with | some x => X.a.cl ++ [(x, (((k : Int), d), true))] | none => X.a.cl), wr := updI X.a.wr d k, wt := updI X.a.wt d ((X.a.N k).getD k 0), rd := updI X.a.rd d (fun _ => 0) }) := Lib.hid fun x hx => by
    rw [writeA, hx]
    exact ⟨rfl, rfl⟩
  obtain ⟨b, hb⟩ : ∃ b, hidW X.a k d = b := ⟨_, rfl⟩
  have HQ := Lib.hid hb
  rw [hb]
  cases b
  · have H3 := Lib.hid (hiddenReader_at h2 k hk hd)
    obtain ⟨⟨r, b2⟩, hr⟩ : ∃ r, hidR (X.a.N k) (X.a.rd d) = r := ⟨_, rfl⟩
    rw [hr] at H3
    have HRR := Lib.hid hr
    have H2 := Lib.hid h2
    clear H1 hb hr h2
    go_wp2_with fail
    refine H3.out.mono ?_
    rintro e w' ⟨rfl, rfl⟩
    cases b2
    · have hC := HB.out none (by rw [clashW, HQ.out, HRR.out]; rfl)
      have HC := Lib.hid hC
      have h3 := H2.out.more (show n + 1 ≤ n + 3 by omega)
      obtain ⟨hnl, _, ⟨g0, f0⟩, ⟨g1, f1⟩, g2, _⟩ := h3.facts hd
      obtain ⟨wu, hcl, c2, hro⟩ := h3.write hd (k : Int) ((X.a.N k).getD k 0)
      have HT := Lib.hid (time_at h3 k hk)
      have HF := Lib.hid hro
      clear h3 hro hC HB H2 H3
      generalize (X.a.N k).getD k 0 = t at *
      go_wp2_with fail
      refine HT.out.mono ?_
      rintro e w' ⟨rfl, rfl⟩
      clear HT
      go_wp2
      go_ret
      exact ⟨ret_bool HC.out.1.symm, by rw [HC.out.2]; exact HF.out⟩
    · have hC := HB.out (some ((r, d), false)) (by rw [clashW, HQ.out, HRR.out]; rfl)
      have HC := Lib.hid hC
      have HNT := Lib.hid (note_at (H2.out.more (show n + 1 ≤ n + 2 by omega)) (by omega) ((r, d), false) (((k : Int), d), true))
      clear hC HB H2 H3
      unfold accV at HNT
      go_wp2_with fail
      refine HNT.out.mono ?_
      rintro e w3 ⟨rfl, h3⟩
      obtain ⟨hnl, _, ⟨g0, f0⟩, ⟨g1, f1⟩, g2, _⟩ := h3.facts hd
      obtain ⟨wu, hcl, c2, hro⟩ := h3.write hd (k : Int) ((X.a.N k).getD k 0)
      have HT := Lib.hid (time_at h3 k hk)
      have HF := Lib.hid hro
      clear h3 hro HNT
      simp only at HT g0 g1
      generalize (X.a.N k).getD k 0 = t at *
      go_wp2_with fail
      refine HT.out.mono ?_
      rintro e w' ⟨rfl, rfl⟩
      clear HT
      go_wp2
      go_ret
      exact ⟨ret_bool HC.out.1.symm, by rw [HC.out.2]; exact HF.out⟩
  · have hC := HB.out (some ((X.a.wr d, d), true)) (by rw [clashW, HQ.out]; rfl)
    have HC := Lib.hid hC
    have HNT := Lib.hid (note_at (h2.more (show n + 1 ≤ n + 2 by omega)) (by omega) ((X.a.wr d, d), true) (((k : Int), d), true))
    clear hC HB h2 H1 hb
    unfold accV at HNT
    go_wp2_with fail
    refine HNT.out.mono ?_
    rintro e w3 ⟨rfl, h3⟩
    obtain ⟨hnl, _, ⟨g0, f0⟩, ⟨g1, f1⟩, g2, _⟩ := h3.facts hd
    obtain ⟨wu, hcl, c2, hro⟩ := h3.write hd (k : Int) ((X.a.N k).getD k 0)
    have HT := Lib.hid (time_at h3 k hk)
    have HF := Lib.hid hro
    clear h3 hro HNT
    simp only at HT g0 g1
    generalize (X.a.N k).getD k 0 = t at *
    go_wp2_with fail
    refine HT.out.mono ?_
    rintro e w' ⟨rfl, rfl⟩
    clear HT
    go_wp2
    go_ret
    exact ⟨ret_bool HC.out.1.symm, by rw [HC.out.2]; exact HF.out⟩

theorem Read_not (b : Nat) (x d : Int) (hx : isW x = false) (w : World) :
    Calls Try.prog 67 #[.pointer (some ⟨b, 0, none⟩), .int .i64 x, .int .i64 d] w fun e w' => e = .returned (.bool true) ∧ w = w' := by
  have HW := Lib.hid hx
  clear hx
  go_enter Try.func67, Try.ntmps67
  go_wp2_with fail
  refine (has_any _ _ _).mono ?_
  rw [HW.out]
  rintro e w' ⟨rfl, rfl⟩
  go_wp2
  go_ret
  exact ⟨rfl, rfl⟩
theorem Read_nil (x d : Int) (w : World) :
    Calls Try.prog 67 #[.pointer none, .int .i64 x, .int .i64 d] w fun e w' => e = .returned (.bool true) ∧ w = w' := by
  go_enter Try.func67, Try.ntmps67
  go_wp2_with fail
  refine (has_nil _ _).mono ?_
  rintro e w' ⟨rfl, rfl⟩
  go_wp2
  go_ret
  exact ⟨rfl, rfl⟩
theorem Write_not (b : Nat) (x d : Int) (hx : isW x = false) (w : World) :
    Calls Try.prog 66 #[.pointer (some ⟨b, 0, none⟩), .int .i64 x, .int .i64 d] w fun e w' => e = .returned (.bool true) ∧ w = w' := by
  have HW := Lib.hid hx
  clear hx
  go_enter Try.func66, Try.ntmps66
  go_wp2_with fail
  refine (has_any _ _ _).mono ?_
  rw [HW.out]
  rintro e w' ⟨rfl, rfl⟩
  go_wp2
  go_ret
  exact ⟨rfl, rfl⟩
end

end Go.Proofs.Ytdgmcaehadigaaa
