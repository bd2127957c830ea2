/- A watch in memory: its row, its maps, what is noted of data, its clashes; and what stays while parts of it are written. -/
import Derived.Test.YtdgmcaehadigaaaRacMap
import Derived.Test.YtdgmcaehadigaaaClkNew
namespace Go.Proofs.Ytdgmcaehadigaaa
open Go.RowKit

/-- Blocks in M may have been written, and new ones have been laid; all else is as it was. -/
structure Chg (M : Nat → Prop) (w w' : World) : Prop where
  os : w'.os = w.os
  tape : w'.tape = w.tape
  output : w'.output = w.output
  size : w.heap.size ≤ w'.heap.size
  block : ∀ b, b < w.heap.size → ¬ M b → w'.heap[b]? = w.heap[b]?
section
variable {M M' : Nat → Prop} {a w w' w'' : World}
theorem Chg.refl : Chg M w w := ⟨rfl, rfl, rfl, Nat.le_refl _, fun _ _ _ => rfl⟩
theorem Chg.trans (h : Chg M w w') (k : Chg M' w' w'') (hs : ∀ b, M' b → M b ∨ w.heap.size ≤ b) : Chg M w w'' :=
  ⟨k.os.trans h.os, k.tape.trans h.tape, k.output.trans h.output, Nat.le_trans h.size k.size, fun b hb hn => (k.block b (Nat.lt_of_lt_of_le hb h.size) (fun e => (hs b e).elim hn (fun h2 => by omega))).trans (h.block b hb hn)⟩
theorem Chg.of_below (h : Below w.heap.size w w') : Chg M w w' := ⟨h.os, h.tape, h.output, h.size, fun b hb _ => h.block b hb⟩
theorem Chg.mono (h : Chg M w w') (hs : ∀ b, M b → M' b) : Chg M' w w' := ⟨h.os, h.tape, h.output, h.size, fun b hb hn => h.block b hb (fun e => hn (hs b e))⟩
theorem Chg.below {B : Nat} (h : Chg M w w') (hB : ∀ b, M b → B ≤ b) (hs : B ≤ w.heap.size) : Below B w w' :=
  ⟨h.os, h.tape, h.output, h.size, fun b hb => h.block b (by omega) (fun e => by have := hB b e; omega)⟩
theorem Chg.cell (h : Chg M w w') {p : Addr} (hp : p.block < w.heap.size) (hn : ¬ M p.block) : w'.cell? p = w.cell? p := World.cell?_of_block (w := w) (h.block p.block hp hn)
theorem Chg.frozen (h : Chg M w w') {p : Addr} (hp : p.block < w.heap.size) (hn : ¬ M p.block) : w'.frozen? p = w.frozen? p := World.frozen?_of_block (w := w) (h.block p.block hp hn)
theorem Chg.drew (h : Chg M w w') : Chg M w w'.drew := ⟨h.os, h.tape, h.output, h.size, h.block⟩
theorem Chg.setCell {b o : Nat} (h : Chg M w w') (hb : M b) (v : Value) : Chg M w (w'.setCell ⟨b, o, none⟩ v) :=
  h.trans (M' := fun c => c = b) ⟨rfl, rfl, rfl, by simp, fun c _ hn => Below.heap_setCell _ _ _ _ (fun e => hn e)⟩ (fun c e => .inl (e ▸ hb))
theorem Chg.turned {b : Nat} (h : Chg M w w') (hb : M b) (k : w'.mapTurned w'' b) : Chg M w w'' :=
  have g := k.grown
  h.trans (M' := fun c => c = b) ⟨g.os, g.tape, g.output, g.size, fun c hc hn => g.block c hc (fun e => hn (by injection e))⟩ (fun c e => .inl (e ▸ hb))
theorem Chg.alloc (h : Chg M w w') (o : Obj) : Chg M w (w'.alloc o) := h.trans (M' := fun _ => False) (Chg.of_below ((Below.refl _ w').alloc (Nat.le_refl _) o)) (fun _ e => e.elim)
end

/-- A clock: it says these numbers, in blocks that are not in Z. -/
def Clk (w : World) (Z : Nat → Prop) (v : Value) (N : List Int) : Prop :=
  ∃ (A : Option Addr) (zs : List Int) (c : Nat), v = .slice A zs.length c ∧ numL zs = N ∧ zs.length ≤ 65 ∧ ∀ k z, zs[k]? = some z → ∃ b off, A = some ⟨b, off, none⟩ ∧ b < w.heap.size ∧ ¬ Z b ∧ w.cell? ⟨b, off + k, none⟩ = some (.int .i64 z)
theorem Clk.nil (w : World) (Z : Nat → Prop) : Clk w Z (.slice none 0 0) zeroN := ⟨none, [], 0, rfl, by decide +kernel, by simp, by simp⟩
theorem Clk.chg {w w' : World} {Z Z' M : Nat → Prop} {v : Value} {N : List Int} (h : Clk w Z v N) (hc : Chg M w w') (hM : ∀ b, M b → Z b ∨ w.heap.size ≤ b) (hZ : ∀ b, Z' b → Z b ∨ w.heap.size ≤ b) : Clk w' Z' v N := by
  obtain ⟨A, zs, c, hv, hN, hl, hr⟩ := h
  refine ⟨A, zs, c, hv, hN, hl, fun k z hk => ?_⟩
  obtain ⟨b, off, hA, hb, hz, hcell⟩ := hr k z hk
  have hnz : ∀ {S : Nat → Prop}, (∀ b, S b → Z b ∨ w.heap.size ≤ b) → ¬ S b := fun hS e => (hS b e).elim hz (fun h => by omega)
  exact ⟨b, off, hA, Nat.lt_of_lt_of_le hb hc.size, hnz hZ, (hc.cell (p := ⟨b, off + k, none⟩) hb (hnz hM)).trans hcell⟩
theorem Clk.num {w : World} {Z : Nat → Prop} {v : Value} {N : List Int} (h : Clk w Z v N) : IsNum N := by
  obtain ⟨A, zs, c, hv, rfl, hl, hr⟩ := h
  exact numL_num zs
/-- What a call of package clock leaves is a clock. -/
theorem Clk.of_new {w w' : World} {Z : Nat → Prop} {L : List Int} {v : Value} (hZ : ∀ b, Z b → b < w.heap.size) (h : IntsNew L w (.returned v) w') (hL : L.length ≤ 65) : Clk w' Z v (numL L) := by
  obtain ⟨A, c, he, hr, hb⟩ := h
  injection he with he
  subst he
  refine ⟨A, L, c, rfl, rfl, hL, fun k z hk => ?_⟩
  obtain ⟨b, off, hA, h1, h2, hc⟩ := hr k z hk
  exact ⟨b, off, hA, h2, fun e => by have := hZ b e; omega, hc⟩

/-- A function, with v at x. -/
def updI {α : Type} (m : Int → α) (x : Int) (v : α) : Int → α := fun k => if k = x then v else m k
def updN {α : Type} (m : Nat → α) (x : Nat) (v : α) : Nat → α := fun k => if k = x then v else m k

/-- A clash: two accesses, each its worker, its place, and whether it writes. -/
abbrev AccT := (Int × Int) × Bool
abbrev ClT := AccT × AccT
def cellsAcc (x : AccT) : List Value := [.int .i64 x.1.1, .int .i64 x.1.2, .bool x.2]
def cellsCl (L : List ClT) : List Value := L.flatMap fun x => cellsAcc x.1 ++ cellsAcc x.2
theorem cellsCl_snoc (L : List ClT) (x : ClT) : cellsCl (L ++ [x]) = cellsCl L ++ (cellsAcc x.1 ++ cellsAcc x.2) := by simp [cellsCl]

/-- What a watch knows: the numbers of workers and of atomic places; of data the last writer, its time, and the reads; and the clashes. -/
structure AX where
  N : Nat → List Int
  pn : Int → List Int
  wr : Int → Int
  wt : Int → Int
  rd : Int → Int → Int
  cl : List ClT
/-- .. and where all of it lies. -/
structure RX where
  B : Nat
  bp : Nat
  bd : Nat
  V : Nat → Value
  pv : Int → Value
  dp : Int → Option (Nat × Nat)
  cv : Value
  a : AX

def nilP : Value := .pointer none
def ptrD : Option (Nat × Nat) → Value
  | none => .pointer none
  | some p => .pointer (some ⟨p.1, 0, none⟩)

/-- What is noted of the place of data k. -/
def Dat (w : World) (n : Nat) (ρ : Nat → Int × Int) (X : RX) (k : Int) : Prop :=
  (X.dp k = none ∧ X.a.wr k = 0 ∧ X.a.wt k = 0 ∧ ∀ j, X.a.rd k j = 0) ∨
  ∃ nb rb, X.dp k = some (nb, rb) ∧ ρ nb = (5, k) ∧ ρ rb = (6, k) ∧ (w.cell? ⟨nb, 0, none⟩ = some (.int .i64 (X.a.wr k)) ∧ w.frozen? ⟨nb, 0, none⟩ = false) ∧ (w.cell? ⟨nb, 1, none⟩ = some (.int .i64 (X.a.wt k)) ∧ w.frozen? ⟨nb, 1, none⟩ = false) ∧
    w.cell? ⟨nb, 2, none⟩ = some (.map (some rb)) ∧ MapV w rb n (.int .i64 0) (fun j => .int .i64 (X.a.rd k j))

/-- A watch lies in memory; ρ tells which of its blocks is what (0: none of them); clocks lie outside Z. -/
structure Rac (w : World) (Z : Nat → Prop) (n : Nat) (ρ : Nat → Int × Int) (X : RX) : Prop where
  own : ∀ b, (ρ b).1 ≠ 0 → b < w.heap.size ∧ Z b
  zlt : ∀ b, Z b → b < w.heap.size
  rB : ρ X.B = (1, 0)
  rp : ρ X.bp = (2, 0)
  rd : ρ X.bd = (3, 0)
  wk : ∀ k, k < 65 → w.cell? ⟨X.B, k, none⟩ = some (X.V k) ∧ w.frozen? ⟨X.B, k, none⟩ = false
  ck : ∀ k, k < 65 → Clk w Z (X.V k) (X.a.N k)
  c65 : w.cell? ⟨X.B, 65, none⟩ = some (.map (some X.bp))
  c66 : w.cell? ⟨X.B, 66, none⟩ = some (.map (some X.bd))
  c67 : w.cell? ⟨X.B, 67, none⟩ = some X.cv ∧ w.frozen? ⟨X.B, 67, none⟩ = false
  pm : MapV w X.bp n (.slice none 0 0) X.pv
  pk : ∀ k, IsI k → Clk w Z (X.pv k) (X.a.pn k)
  dm : MapV w X.bd n nilP (fun k => ptrD (X.dp k))
  dt : ∀ k, IsI k → Dat w n ρ X k
  cr : w.ownsRow 0 120 6 X.cv X.a.cl.length (cellsCl X.a.cl)
  co : ∀ g, X.cv.ownBlock = some g → (ρ g).1 = 4
  cn : X.a.cl.length ≤ n

def Owned (ρ : Nat → Int × Int) (b : Nat) : Prop := (ρ b).1 ≠ 0
theorem ownsRow_same {w w' : World} {base : Nat} {e : TypeId} {size n : Nat} {v : Value} {xs : List Value} (h : w.ownsRow base e size v n xs) (hs : ∀ g, v.ownBlock = some g → w'.heap[g]? = w.heap[g]?) : w'.ownsRow base e size v n xs := by
  obtain ⟨hl, h⟩ := h
  refine ⟨hl, ?_⟩
  rcases h with ⟨hv, h0⟩ | ⟨g, cap, cur, hv, hg, hh, hr⟩
  · exact .inl ⟨hv, h0⟩
  · refine .inr ⟨g, cap, cur, hv, hg, ?_, hr⟩
    rw [hs g (by rw [hv]; rfl)]
    exact hh
theorem Dat.same {w w' : World} {n n' : Nat} {ρ ρ' : Nat → Int × Int} {X X' : RX} {k : Int} (h : Dat w n ρ X k) (hn : n ≤ n') (hs : ∀ b, ρ b = (5, k) ∨ ρ b = (6, k) → w'.heap[b]? = w.heap[b]? ∧ ρ' b = ρ b)
    (e1 : X'.dp k = X.dp k) (e2 : X'.a.wr k = X.a.wr k) (e3 : X'.a.wt k = X.a.wt k) (e4 : X'.a.rd k = X.a.rd k) : Dat w' n' ρ' X' k := by
  rcases h with ⟨h0, h1, h2, h3⟩ | ⟨nb, rb, h0, h1, h2, ⟨h3, h3'⟩, ⟨h4, h4'⟩, h5, h6⟩
  · exact .inl ⟨e1.trans h0, e2.trans h1, e3.trans h2, by rw [e4]; exact h3⟩
  · have s1 := hs nb (.inl h1)
    have s2 := hs rb (.inr h2)
    refine .inr ⟨nb, rb, e1.trans h0, s1.2.trans h1, s2.2.trans h2, ⟨?_, ?_⟩, ⟨?_, ?_⟩, ?_, ?_⟩
    · rw [e2]; exact (World.cell?_of_block (w := w) s1.1).trans h3
    · exact (World.frozen?_of_block (w := w) s1.1).trans h3'
    · rw [e3]; exact (World.cell?_of_block (w := w) s1.1).trans h4
    · exact (World.frozen?_of_block (w := w) s1.1).trans h4'
    · exact (World.cell?_of_block (w := w) s1.1).trans h5
    · rw [e4]; exact (h6.same s2.1).mono hn

section
variable {w w' : World} {Z Z' M : Nat → Prop} {n : Nat} {ρ : Nat → Int × Int} {X : RX}
theorem Rac.blk (h : Rac w Z n ρ X) (hc : Chg M w w') (hM : ∀ b, M b → ¬ Owned ρ b) {b : Nat} (hb : (ρ b).1 ≠ 0) : w'.heap[b]? = w.heap[b]? :=
  hc.block b (h.own b hb).1 (fun e => hM b e hb)
/-- What is not the watch's may be written. -/
theorem Rac.chg (h : Rac w Z n ρ X) (hc : Chg M w w') (hM : ∀ b, M b → ¬ Owned ρ b) (hMZ : ∀ b, M b → Z b ∨ w.heap.size ≤ b) (hZ : ∀ b, Owned ρ b → Z' b) (hZ' : ∀ b, Z' b → Z b ∨ w.heap.size ≤ b) (hZl : ∀ b, Z' b → b < w'.heap.size) : Rac w' Z' n ρ X := by
  have q := fun b hb => h.blk hc hM (b := b) hb
  have qB : w'.heap[X.B]? = w.heap[X.B]? := q X.B (by rw [h.rB]; decide)
  have cB : ∀ o, w'.cell? ⟨X.B, o, none⟩ = w.cell? ⟨X.B, o, none⟩ := fun o => World.cell?_of_block (w := w) qB
  have fB : ∀ o, w'.frozen? ⟨X.B, o, none⟩ = w.frozen? ⟨X.B, o, none⟩ := fun o => World.frozen?_of_block (w := w) qB
  exact {
    own := fun b hb => ⟨Nat.lt_of_lt_of_le (h.own b hb).1 hc.size, hZ b hb⟩
    zlt := hZl
    rB := h.rB
    rp := h.rp
    rd := h.rd
    wk := fun k hk => ⟨(cB k).trans (h.wk k hk).1, (fB k).trans (h.wk k hk).2⟩
    ck := fun k hk => (h.ck k hk).chg hc hMZ hZ'
    c65 := (cB 65).trans h.c65
    c66 := (cB 66).trans h.c66
    c67 := ⟨(cB 67).trans h.c67.1, (fB 67).trans h.c67.2⟩
    pm := h.pm.same (q X.bp (by rw [h.rp]; decide))
    pk := fun k hk => (h.pk k hk).chg hc hMZ hZ'
    dm := h.dm.same (q X.bd (by rw [h.rd]; decide))
    dt := fun k hk => (h.dt k hk).same (Nat.le_refl _) (fun b e => ⟨q b (by rcases e with e | e <;> rw [e] <;> simp), rfl⟩) rfl rfl rfl rfl
    cr := ownsRow_same h.cr (fun g hg => q g (by rw [h.co g hg]; decide))
    co := h.co
    cn := h.cn }
theorem Rac.later (h : Rac w Z n ρ X) (hb : Below w.heap.size w w') : Rac w' Z n ρ X :=
  h.chg (M := fun _ => False) (Chg.of_below hb) (fun _ e => e.elim) (fun _ e => e.elim) (fun b e => (h.own b e).2) (fun _ e => .inl e) (fun b e => Nat.lt_of_lt_of_le (h.zlt b e) hb.size)
theorem Rac.more (h : Rac w Z n ρ X) {n' : Nat} (hn : n ≤ n') : Rac w Z n' ρ X := by
  exact { h with pm := h.pm.mono hn, dm := h.dm.mono hn, dt := fun k hk => (h.dt k hk).same hn (fun b _ => ⟨rfl, rfl⟩) rfl rfl rfl rfl, cn := Nat.le_trans h.cn hn }
end

end Go.Proofs.Ytdgmcaehadigaaa
