/- A clock beside a law's own books: since when each worker is pinned, the slots and their times, and the deed at hand. -/
import Derived.Test.YtgfcpjkihbaapaaEpJ
import Derived.Test.YtgfcpjkihbaapaaEpSub
import Derived.Test.YtgfcpjkihbaapaaEpSafeP
import Derived.Test.YtgfcpjkihbaapaaLits
namespace Go.Proofs.Ytgfcpjkihbaapaa
open Go.RowKit

/-- The law's own blocks. -/
def OwnS (PB : Nat) (SV TV : Value) (L : List (Nat × Int × Int)) (b : Nat) : Prop := b = PB ∨ SV.ownBlock = some b ∨ TV.ownBlock = some b ∨ ∃ p ∈ L, p.1 = b
structure ES (w0 : World) (n B : Nat) (x : EX) (PB N : Nat) (ps : Nat → Int) (SV : Value) (S : List Int) (TV : Value) (T : List Int) (L : List (Nat × Int × Int)) (w : World) : Prop where
  ej : EJ w0 n (.pointer (some ⟨B, 0, none⟩)) x (OwnS PB SV TV L) w
  pc : ∀ i : Nat, i < N → w.cell? ⟨PB, i, none⟩ = some (.int .i64 (ps i)) ∧ w.frozen? ⟨PB, i, none⟩ = false
  sv : SubRow w SV S
  tv : SubRow w TV T
  bx : ∀ p ∈ L, w.cell? ⟨p.1, 0, none⟩ = some (.int .i64 p.2.1) ∧ w.cell? ⟨p.1, 1, none⟩ = some (.int .i64 p.2.2)
  d1 : SV.ownBlock ≠ some PB
  d2 : TV.ownBlock ≠ some PB
  d3 : ∀ g, SV.ownBlock = some g → TV.ownBlock ≠ some g
  d4 : ∀ p ∈ L, p.1 ≠ PB ∧ SV.ownBlock ≠ some p.1 ∧ TV.ownBlock ≠ some p.1
section
variable {w0 w w' : World} {n m B PB N : Nat} {x y : EX} {ps : Nat → Int} {SV TV : Value} {S T : List Int} {L : List (Nat × Int × Int)}
theorem ES.below (h : ES w0 n B x PB N ps SV S TV T L w) : Below w0.heap.size w0 w := h.ej.below
theorem ES.lt (h : ES w0 n B x PB N ps SV S TV T L w) {b : Nat} (hb : OwnS PB SV TV L b) : b < w.heap.size := by
  obtain ⟨_, _, _, _, _, _, _, _, _, _, h5⟩ := h.ej
  exact (h5 b hb).2.1
theorem ES.keep (h : ES w0 n B x PB N ps SV S TV T L w) (hj : EJ w0 m (.pointer (some ⟨B, 0, none⟩)) y (OwnS PB SV TV L) w') (hk : KeepJ (OwnS PB SV TV L) w w') : ES w0 m B y PB N ps SV S TV T L w' := by
  have q := hk PB (.inl rfl)
  refine ⟨hj, fun i hi => ⟨(World.cell?_of_block (w := w) q).trans (h.pc i hi).1, (World.frozen?_of_block (w := w) q).trans (h.pc i hi).2⟩, h.sv.same fun g hg => hk g (.inr (.inl hg)), h.tv.same fun g hg => hk g (.inr (.inr (.inl hg))), fun p hp => ?_, h.d1, h.d2, h.d3, h.d4⟩
  have q2 := hk p.1 (.inr (.inr (.inr ⟨p, hp, rfl⟩)))
  exact ⟨(World.cell?_of_block (w := w) q2).trans (h.bx p hp).1, (World.cell?_of_block (w := w) q2).trans (h.bx p hp).2⟩
theorem ES.later (h : ES w0 n B x PB N ps SV S TV T L w) (hb : Below w.heap.size w w') : ES w0 n B x PB N ps SV S TV T L w' := h.keep (h.ej.later hb) fun b e => hb.block b (h.lt e)
theorem ES.more (h : ES w0 n B x PB N ps SV S TV T L w) (hm : n ≤ m) : ES w0 m B x PB N ps SV S TV T L w := { h with ej := h.ej.more hm }
theorem ES.drop (h : ES w0 n B x PB N ps SV S TV T L w) : ES w0 n B x PB N ps SV S TV T [] w :=
  ⟨h.ej.sub (J' := OwnS PB SV TV []) (fun b e => by
    rcases e with e | e | e | ⟨_, e, _⟩
    · exact .inl e
    · exact .inr (.inl e)
    · exact .inr (.inr (.inl e))
    · cases e), h.pc, h.sv, h.tv, (fun _ e => by cases e), h.d1, h.d2, h.d3, (fun _ e => by cases e)⟩
theorem ES.box (h : ES w0 n B x PB N ps SV S TV T [] w) (v k : Int) (t : TypeId) : ES w0 n B x PB N ps SV S TV T [(w.heap.size, v, k)] (w.alloc (.cells #[.int .i64 v, .int .i64 k] t)) := by
  have hb := below_new w (.cells #[.int .i64 v, .int .i64 k] t)
  have h2 := h.later hb
  have hh := heap_alloc_last w (.cells #[.int .i64 v, .int .i64 k] t)
  have hlt := fun b (e : OwnS PB SV TV [] b) => h.lt e
  refine ⟨h.ej.write (M := fun _ => False) (Chg.of_below hb) (fun _ e => e.elim) (fun b e => ?_), h2.pc, h2.sv, h2.tv, fun p hp => ?_, h.d1, h.d2, h.d3, fun p hp => ?_⟩
  · rcases e with e | e | e | ⟨p, hp, rfl⟩
    · exact .inl (.inl e)
    · exact .inl (.inr (.inl e))
    · exact .inl (.inr (.inr (.inl e)))
    · rw [List.mem_singleton.1 hp]
      exact .inr ⟨Nat.le_refl _, by simp⟩
  · rw [List.mem_singleton.1 hp]
    exact ⟨cell_of_row _ _ 0 _ t (0, 0) hh, cell_of_row _ _ 1 _ t (0, 0) hh⟩
  · rw [List.mem_singleton.1 hp]
    refine ⟨fun e => ?_, fun e => ?_, fun e => ?_⟩
    · exact Nat.lt_irrefl _ (e ▸ hlt PB (.inl rfl))
    · exact Nat.lt_irrefl _ (hlt _ (.inr (.inl e)))
    · exact Nat.lt_irrefl _ (hlt _ (.inr (.inr (.inl e))))
/-- The law notes since when one is pinned. -/
theorem ES.setP (h : ES w0 n B x PB N ps SV S TV T L w) {q : Nat} (hq : q < N) (v : Int) : ES w0 n B x PB N (updP ps q v) SV S TV T L (w.setCell ⟨PB, q, none⟩ (.int .i64 v)) := by
  have hs : ∀ b, b ≠ PB → (w.setCell ⟨PB, q, none⟩ (.int .i64 v)).heap[b]? = w.heap[b]? := fun b hb => Below.heap_setCell _ _ _ _ hb
  refine ⟨h.ej.write (M := fun b => b = PB) (Chg.setCell (M := fun b => b = PB) Chg.refl rfl _) (fun b e => .inl e) (fun b e => .inl e), fun i hi => ⟨?_, ?_⟩, h.sv.same fun g hg => hs g (fun e => h.d1 (e ▸ hg)), h.tv.same fun g hg => hs g (fun e => h.d2 (e ▸ hg)), fun p hp => ?_, h.d1, h.d2, h.d3, h.d4⟩
  · unfold updP
    by_cases e : i = q
    · subst e
      rw [if_pos rfl]
      exact World.cell?_setCell_same _ _ _ (h.pc i hi).1
    · rw [if_neg e, World.cell?_setCell_other _ _ _ _ (fun e2 => e (by injection e2 with _ e2; exact e2.symm))]
      exact (h.pc i hi).1
  · rw [World.frozen?_setCell]
    exact (h.pc i hi).2
  · have q2 := hs p.1 (h.d4 p hp).1
    exact ⟨(World.cell?_of_block (w := w) q2).trans (h.bx p hp).1, (World.cell?_of_block (w := w) q2).trans (h.bx p hp).2⟩
/-- A slot more. -/
theorem ES.putS (h : ES w0 n B x PB N ps SV S TV T L w) {z : Int} {v' : Value} (ho : AppOut w SV S z v' w') : ES w0 n B x PB N ps v' (S ++ [z]) TV T L w' := by
  obtain ⟨h1, h2, h3⟩ := ho
  have hk : ∀ b, b < w.heap.size → SV.ownBlock ≠ some b → w'.heap[b]? = w.heap[b]? := fun b hb hn => h2.block b hb hn
  have hlt := fun b (e : OwnS PB SV TV L b) => h.lt e
  have q := hk PB (hlt PB (.inl rfl)) h.d1
  have hn : ∀ b, OwnS PB SV TV L b → SV.ownBlock ≠ some b → v'.ownBlock ≠ some b := fun b hb hs e => by
    rcases h3 b e with e2 | e2
    · exact hs e2
    · have := hlt b hb
      omega
  refine ⟨h.ej.write (M := fun b => SV.ownBlock = some b) h2 (fun b e => .inr (.inl e)) (fun b e => ?_), fun i hi => ⟨(World.cell?_of_block (w := w) q).trans (h.pc i hi).1, (World.frozen?_of_block (w := w) q).trans (h.pc i hi).2⟩, h1,
    h.tv.same fun g hg => hk g (hlt g (.inr (.inr (.inl hg)))) (fun e => h.d3 g e hg), fun p hp => ?_, hn PB (.inl rfl) h.d1, h.d2, fun g hg e => ?_, fun p hp => ⟨(h.d4 p hp).1, hn _ (.inr (.inr (.inr ⟨p, hp, rfl⟩))) (h.d4 p hp).2.1, (h.d4 p hp).2.2⟩⟩
  · rcases e with e | e | e
    · exact .inl (.inl e)
    · exact (h3 b e).imp (fun e => .inr (.inl e)) id
    · exact .inl (.inr (.inr e))
  · have q2 := hk p.1 (hlt _ (.inr (.inr (.inr ⟨p, hp, rfl⟩)))) (h.d4 p hp).2.1
    exact ⟨(World.cell?_of_block (w := w) q2).trans (h.bx p hp).1, (World.cell?_of_block (w := w) q2).trans (h.bx p hp).2⟩
  · exact hn g (.inr (.inr (.inl e))) (fun e2 => h.d3 g e2 e) hg
/-- .. and its time. -/
theorem ES.putT (h : ES w0 n B x PB N ps SV S TV T L w) {z : Int} {v' : Value} (ho : AppOut w TV T z v' w') : ES w0 n B x PB N ps SV S v' (T ++ [z]) L w' := by
  obtain ⟨h1, h2, h3⟩ := ho
  have hk : ∀ b, b < w.heap.size → TV.ownBlock ≠ some b → w'.heap[b]? = w.heap[b]? := fun b hb hn => h2.block b hb hn
  have hlt := fun b (e : OwnS PB SV TV L b) => h.lt e
  have q := hk PB (hlt PB (.inl rfl)) h.d2
  have hn : ∀ b, OwnS PB SV TV L b → TV.ownBlock ≠ some b → v'.ownBlock ≠ some b := fun b hb hs e => by
    rcases h3 b e with e2 | e2
    · exact hs e2
    · have := hlt b hb
      omega
  refine ⟨h.ej.write (M := fun b => TV.ownBlock = some b) h2 (fun b e => .inr (.inr (.inl e))) (fun b e => ?_), fun i hi => ⟨(World.cell?_of_block (w := w) q).trans (h.pc i hi).1, (World.frozen?_of_block (w := w) q).trans (h.pc i hi).2⟩,
    h.sv.same fun g hg => hk g (hlt g (.inr (.inl hg))) (h.d3 g hg), h1, fun p hp => ?_, h.d1, hn PB (.inl rfl) h.d2, fun g hg e => ?_, fun p hp => ⟨(h.d4 p hp).1, (h.d4 p hp).2.1, hn _ (.inr (.inr (.inr ⟨p, hp, rfl⟩))) (h.d4 p hp).2.2⟩⟩
  · rcases e with e | e | e | e
    · exact .inl (.inl e)
    · exact .inl (.inr (.inl e))
    · exact (h3 b e).imp (fun e => .inr (.inr (.inl e))) id
    · exact .inl (.inr (.inr (.inr e)))
  · have q2 := hk p.1 (hlt _ (.inr (.inr (.inr ⟨p, hp, rfl⟩)))) (h.d4 p hp).2.2
    exact ⟨(World.cell?_of_block (w := w) q2).trans (h.bx p hp).1, (World.cell?_of_block (w := w) q2).trans (h.bx p hp).2⟩
  · exact hn g (.inr (.inl hg)) (h.d3 g hg) e
/-- The books read otherwise, in the same blocks. -/
theorem ES.cut (h : ES w0 n B x PB N ps SV S TV T L w) {SV' TV' : Value} {S' T' : List Int} (h1 : SubRow w SV' S') (h2 : SubRow w TV' T') (e1 : SV'.ownBlock = SV.ownBlock) (e2 : TV'.ownBlock = TV.ownBlock) : ES w0 n B x PB N ps SV' S' TV' T' L w :=
  ⟨h.ej.sub (fun b e => by unfold OwnS at *; rw [e1, e2] at e; exact e), h.pc, h1, h2, h.bx, by rw [e1]; exact h.d1, by rw [e2]; exact h.d2, fun g hg => by rw [e2]; exact h.d3 g (e1 ▸ hg), fun p hp => by rw [e1, e2]; exact h.d4 p hp⟩
theorem ELoad_es (h : ES w0 n B x PB N ps SV S TV T L w) (v : Int) :
    Calls Try.prog 42 #[.pointer (some ⟨B, 0, none⟩), .int .i64 v] w fun e w' => e = .returned (.int .i64 (loadV x v : Nat)) ∧ ES w0 n B (loadX x v) PB N ps SV S TV T L w' :=
  (ELoad_ej h.ej v).mono fun _ _ ⟨he, h1, h2⟩ => ⟨he, h.keep h1 h2⟩
theorem Pin_es (h : ES w0 n B x PB N ps SV S TV T L w) (hn : n < 100000) (v : Int) :
    Calls Try.prog 44 #[.pointer (some ⟨B, 0, none⟩), .int .i64 v] w fun e w' => e = .returned (.bool (pinB x v)) ∧ ES w0 n B (pinX x v) PB N ps SV S TV T L w' :=
  (Pin_ej h.ej hn v).mono fun _ _ ⟨he, h1, h2⟩ => ⟨he, h.keep h1 h2⟩
theorem Unpin_es (h : ES w0 n B x PB N ps SV S TV T L w) (v : Int) :
    Calls Try.prog 46 #[.pointer (some ⟨B, 0, none⟩), .int .i64 v] w fun e w' => e = .returned (.bool (unpinB x v)) ∧ ES w0 n B (unpinX x v) PB N ps SV S TV T L w' :=
  (Unpin_ej h.ej v).mono fun _ _ ⟨he, h1, h2⟩ => ⟨he, h.keep h1 h2⟩
theorem Retire_es (h : ES w0 n B x PB N ps SV S TV T L w) (hn : n < 100000) (s : Int) (hs : IsI s) :
    Calls Try.prog 48 #[.pointer (some ⟨B, 0, none⟩), .int .i64 s] w fun e w' => e = .returned (.bool (!isRet x s)) ∧ ES w0 (n + 1) B (retX x s) PB N ps SV S TV T L w' :=
  (Retire_ej h.ej hn s hs).mono fun _ _ ⟨he, h1, h2⟩ => ⟨he, h.keep h1 h2⟩
theorem Look_es (h : ES w0 n B x PB N ps SV S TV T L w) (hn : n < 100000) :
    Calls Try.prog 50 #[.pointer (some ⟨B, 0, none⟩)] w fun e w' => e = .returned (.bool (lookB x)) ∧ ES w0 (n + 1) B (lookE x) PB N ps SV S TV T L w' :=
  (Look_ej h.ej hn).mono fun _ _ ⟨he, h1, h2⟩ => ⟨he, h.keep h1 h2⟩
theorem Free_es (h : ES w0 n B x PB N ps SV S TV T L w) (hn : n < 100000) {F : List Int} {l : Nat} (hF : (freeL1 x).map (·.1) = F) (hl : F.length = l) :
    Calls Try.prog 52 #[.pointer (some ⟨B, 0, none⟩)] w fun e w' => ∃ A c, e = .returned (.slice A l c) ∧ Rd (Value.int .i64) w' w'.heap.size A F ∧ ES w0 n B (freeE x) PB N ps SV S TV T L w' :=
  (Free_ej h.ej hn hF hl).mono fun _ _ ⟨A, c, he, hr, h1, h2⟩ => ⟨A, c, he, hr, h.keep h1 h2⟩
/-- The books are new. -/
theorem ES.new (h : EJ w0 n (.pointer (some ⟨B, 0, none⟩)) x (fun _ => False) w) (hb : Below w.heap.size w w') (h1 : w.heap.size ≤ PB) (h2 : PB < w'.heap.size) (hc : ∀ i : Nat, i < N → w'.cell? ⟨PB, i, none⟩ = some (.int .i64 0) ∧ w'.frozen? ⟨PB, i, none⟩ = false) :
    ES w0 n B x PB N (fun _ => 0) (.slice none 0 0) [] (.slice none 0 0) [] [] w' := by
  refine ⟨h.write (M := fun _ => False) (Chg.of_below hb) (fun _ e => e.elim) (fun b e => ?_), hc, SubRow.nil _, SubRow.nil _, (fun _ e => by cases e), (fun e => by cases e), (fun e => by cases e), (fun _ e => by cases e), (fun _ e => by cases e)⟩
  rcases e with e | e | e | ⟨_, e, _⟩
  · rw [e]
    exact .inr ⟨h1, h2⟩
  · cases e
  · cases e
  · cases e
end

end Go.Proofs.Ytgfcpjkihbaapaa
