/- A table of mutexes beside a watch, through a law's walk. -/
import Derived.Test.YtgfcpjkihbaapaaRacKeep
import Derived.Test.YtgfcpjkihbaapaaLckTake
import Derived.Test.YtgfcpjkihbaapaaLits
namespace Go.Proofs.Ytgfcpjkihbaapaa
open Go.RowKit

section
variable {w0 w w' : World} {n m Bx B bh bw : Nat} {a : AX} {x : LX} {J : Nat → Prop}
theorem Tab.keep (h : Tab w B bh bw n x) (hk : Keep (TabM B bh bw) w w') : Tab w' B bh bw n x := by
  have hB := hk B (.inl rfl)
  exact ⟨(World.cell?_of_block (w := w) hB).trans h.c0, (World.cell?_of_block (w := w) hB).trans h.c1, (World.cell?_of_block (w := w) hB).trans h.c2, (World.frozen?_of_block (w := w) hB).trans h.f2,
    h.mh.same (hk bh (.inr (.inl rfl))), h.mw.same (hk bw (.inr (.inr rfl))), h.ne⟩
/-- The law's own blocks are written, by what is not the watch's. -/
theorem W3.chg_own (h : W3 w0 n Bx a J w) (hc : Chg J w w') : W3 w0 n Bx a J w' := by
  obtain ⟨Z, ρ, X, hR, h1, h2, h3, h4, h5⟩ := h
  exact ⟨Z, ρ, X, hR.chg hc (fun b e => (h5 b e).2.1) (fun b e => .inl (h5 b e).1) (fun b e => (hR.own b e).2) (fun b e => .inl e) (fun b e => Nat.lt_of_lt_of_le (hR.zlt b e) hc.size), h1, h2, h3.trans (hc.below (fun b e => (h5 b e).2.2) h3.size), h4, h5⟩

theorem Keep.sub {J' : Nat → Prop} (h : Keep J w w') (hs : ∀ b, J' b → J b) : Keep J' w w' := fun b e => h b (hs b e)

/-- A watch at Bx, a table at B, and pairs of numbers that the law laid, in memory laid since w0. -/
structure WT (w0 : World) (n m Bx : Nat) (a : AX) (B bh bw : Nat) (x : LX) (L : List (Nat × Int × Int)) (w : World) : Prop where
  ra : W3 w0 n Bx a (fun b => TabM B bh bw b ∨ ∃ p ∈ L, p.1 = b) w
  tb : Tab w B bh bw m x
  bx : ∀ p ∈ L, ¬ TabM B bh bw p.1 ∧ w.cell? ⟨p.1, 0, none⟩ = some (.int .i64 p.2.1) ∧ w.cell? ⟨p.1, 1, none⟩ = some (.int .i64 p.2.2)
variable {L : List (Nat × Int × Int)}
theorem WT.below (h : WT w0 n m Bx a B bh bw x L w) : Below w0.heap.size w0 w := h.ra.below
theorem WT.keep {n' : Nat} {a' : AX} (h : WT w0 n m Bx a B bh bw x L w) (hr : W3 w0 n' Bx a' (fun b => TabM B bh bw b ∨ ∃ p ∈ L, p.1 = b) w') (hk : Keep (fun b => TabM B bh bw b ∨ ∃ p ∈ L, p.1 = b) w w') : WT w0 n' m Bx a' B bh bw x L w' := by
  refine ⟨hr, h.tb.keep (hk.sub fun _ e => .inl e), fun p hp => ?_⟩
  obtain ⟨h1, h2, h3⟩ := h.bx p hp
  have hb := hk p.1 (.inr ⟨p, hp, rfl⟩)
  exact ⟨h1, (World.cell?_of_block (w := w) hb).trans h2, (World.cell?_of_block (w := w) hb).trans h3⟩
theorem WT.later (h : WT w0 n m Bx a B bh bw x L w) (hb : Below w.heap.size w w') : WT w0 n m Bx a B bh bw x L w' := h.keep (h.ra.later hb) (Keep.of_below (fun _ e => h.ra.lt e) hb)
theorem WT.more (h : WT w0 n m Bx a B bh bw x L w) {n' m' : Nat} (hn : n ≤ n') (hm : m ≤ m') : WT w0 n' m' Bx a B bh bw x L w := ⟨h.ra.more hn, h.tb.more hm, h.bx⟩
theorem WT.drop (h : WT w0 n m Bx a B bh bw x L w) : WT w0 n m Bx a B bh bw x [] w := ⟨h.ra.less (fun _ e => e.elim .inl (fun ⟨_, h, _⟩ => by cases h)), h.tb, fun _ h => by cases h⟩
theorem WT.box (h : WT w0 n m Bx a B bh bw x [] w) (v k : Int) (t : TypeId) : WT w0 n m Bx a B bh bw x [(w.heap.size, v, k)] (w.alloc (.cells #[.int .i64 v, .int .i64 k] t)) := by
  have hb := below_new w (.cells #[.int .i64 v, .int .i64 k] t)
  refine ⟨h.ra.add hb fun b e => ?_, h.tb.later hb, fun p hp => ?_⟩
  · rcases e with e | ⟨p, hp, rfl⟩
    · exact .inl (.inl e)
    · rw [List.mem_singleton.1 hp]
      exact .inr ⟨Nat.le_refl _, by simp⟩
  · rw [List.mem_singleton.1 hp]
    have hh := heap_alloc_last w (.cells #[.int .i64 v, .int .i64 k] t)
    exact ⟨fun e => Nat.lt_irrefl _ (h.tb.mlt e), cell_of_row _ _ 0 _ t (0, 0) hh, cell_of_row _ _ 1 _ t (0, 0) hh⟩
theorem WT.of_tab {r : Bool} {y : LX} {e : Ending} {m' : Nat} (h : WT w0 n m Bx a B bh bw x L w) (ho : TabOut w B bh bw m' y r e w') : e = .returned (.bool r) ∧ WT w0 n m' Bx a B bh bw y L w' := by
  refine ⟨ho.1, h.ra.chg_own (ho.2.2.mono fun _ e => .inl e), ho.2.1, fun p hp => ?_⟩
  obtain ⟨h1, h2, h3⟩ := h.bx p hp
  have hb := ho.2.2.block p.1 (h.ra.lt (.inr ⟨p, hp, rfl⟩)) h1
  exact ⟨h1, (World.cell?_of_block (w := w) hb).trans h2, (World.cell?_of_block (w := w) hb).trans h3⟩
theorem Take_wt (h : WT w0 n m Bx a B bh bw x L w) (hx : LFit x) (hn : m < 100000) (v k : Int) (hv : IsI v) (hk : IsI k) {y : LX} {r : Bool} (hy : takeX x v k = y ∧ takeB x v k = r) :
    Calls Try.prog 28 #[.pointer (some ⟨B, 0, none⟩), .int .i64 v, .int .i64 k] w fun e w' => e = .returned (.bool r) ∧ WT w0 n (m + 1) Bx a B bh bw y L w' := by
  obtain ⟨rfl, rfl⟩ := hy
  exact (Take_any h.tb hx hn v k hv hk).mono fun _ _ ho => h.of_tab ho
theorem Give_wt (h : WT w0 n m Bx a B bh bw x L w) (v k : Int) (hv : IsI v) (hk : IsI k) {y : LX} {r : Bool} (hy : giveX x v k = y ∧ giveB x v k = r) :
    Calls Try.prog 26 #[.pointer (some ⟨B, 0, none⟩), .int .i64 v, .int .i64 k] w fun e w' => e = .returned (.bool r) ∧ WT w0 n m Bx a B bh bw y L w' := by
  obtain ⟨rfl, rfl⟩ := hy
  exact (Give_any h.tb v k hv hk).mono fun _ _ ho => h.of_tab ho
theorem Load_wt (h : WT w0 n m Bx a B bh bw x L w) (k : Nat) (hk : k < 65) (p : Int) (hp : IsI p) :
    Calls Try.prog 59 #[.pointer (some ⟨Bx, 0, none⟩), .int .i64 (k : Int), .int .i64 p] w fun e w' => e = .returned (.tuple #[]) ∧ WT w0 (n + 1) m Bx (loadA a k p) B bh bw x L w' :=
  (Load_w3 h.ra k hk p hp).mono fun _ _ ⟨he, h1, h2⟩ => ⟨he, h.keep h1 h2⟩
theorem Store_wt (h : WT w0 n m Bx a B bh bw x L w) (hn : n < 100000) (k : Nat) (hk : k < 65) (p : Int) (hp : IsI p) :
    Calls Try.prog 62 #[.pointer (some ⟨Bx, 0, none⟩), .int .i64 (k : Int), .int .i64 p] w fun e w' => e = .returned (.tuple #[]) ∧ WT w0 (n + 1) m Bx (storeA a k p) B bh bw x L w' :=
  (Store_w3 h.ra hn k hk p hp).mono fun _ _ ⟨he, h1, h2⟩ => ⟨he, h.keep h1 h2⟩
theorem Read_wt (h : WT w0 n m Bx a B bh bw x L w) (hn : n < 99000) (k : Nat) (hk : k < 65) (d : Int) (hd : IsI d) (hr : hidW a k d = false) :
    Calls Try.prog 60 #[.pointer (some ⟨Bx, 0, none⟩), .int .i64 (k : Int), .int .i64 d] w fun e w' => e = .returned (.bool true) ∧ WT w0 (n + 3) m Bx (readA a k d) B bh bw x L w' := by
  have := Read_w3 h.ra hn k hk d hd
  rw [hr] at this
  exact this.mono fun _ _ ⟨he, h1, h2⟩ => ⟨he, h.keep h1 h2⟩
theorem Write_wt (h : WT w0 n m Bx a B bh bw x L w) (hn : n < 99000) (k : Nat) (hk : k < 65) (d : Int) (hd : IsI d) (hr : clashW a k d = none) :
    Calls Try.prog 61 #[.pointer (some ⟨Bx, 0, none⟩), .int .i64 (k : Int), .int .i64 d] w fun e w' => e = .returned (.bool true) ∧ WT w0 (n + 3) m Bx (writeA a k d) B bh bw x L w' := by
  have := Write_w3 h.ra hn k hk d hd
  rw [hr] at this
  exact this.mono fun _ _ ⟨he, h1, h2⟩ => ⟨he, h.keep h1 h2⟩
theorem Clash_wt (h : WT w0 n m Bx a B bh bw x L w) (hn : n ≤ 100000) (hm : a.cl = []) :
    Calls Try.prog 22 #[.pointer (some ⟨Bx, 0, none⟩)] w fun e w' => ∃ A c, e = .returned (.slice A 0 c) ∧ WT w0 n m Bx a B bh bw x L w' :=
  (Clash_w3 h.ra hn (m := 0) (by rw [hm]; rfl)).mono fun _ _ ⟨A, c, he, hb⟩ => ⟨A, c, he, h.later hb⟩
/-- A new table, then a new watch beside it. -/
theorem New_wt (w0 : World) (B bh bw : Nat) (h : Tab w B bh bw 0 newL) (hb : Below w0.heap.size w0 w) (hM : ∀ b, TabM B bh bw b → w0.heap.size ≤ b) :
    Calls Try.prog 11 #[] w fun e w' => ∃ Bx, e = .returned (.pointer (some ⟨Bx, 0, none⟩)) ∧ WT w0 0 0 Bx newA B bh bw newL [] w' :=
  (New_any w (TabM B bh bw) (fun b hb => h.mlt hb)).mono fun e w' hn => by
    obtain ⟨ρ, X, he, hR, ha, hb2, ho⟩ := hn
    have hsz := hb.size
    refine ⟨X.B, he, ⟨_, ρ, X, hR, rfl, ha, Below.next hb hb2, fun b e => ?_, fun b e => ?_⟩, h.later hb2, fun _ h => by cases h⟩
    · have := ho b e
      omega
    · rcases e with e | ⟨_, e, _⟩
      · refine ⟨.inl e, fun e2 => ?_, hM b e⟩
        have h5 := ho b e2
        have h6 := h.mlt e
        omega
      · cases e
end

end Go.Proofs.Ytgfcpjkihbaapaa
