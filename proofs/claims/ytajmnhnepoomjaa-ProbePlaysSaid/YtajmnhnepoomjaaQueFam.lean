/- Queues and best lists, any number of them, side by side: each place has one. -/
import Derived.Test.YtajmnhnepoomjaaQueThree
namespace Go.Proofs.Ytajmnhnepoomjaa
open Go.RowKit Go.Shelf Go.Sort

section
variable {W W' : World} {b c : Nat} {fv : Value} {A : Option Addr} {M : List SpotT}
theorem HeapAt.keptB (h : HeapAt W b fv A c M) (hk : ∀ k, Own b A k → W'.heap[k]? = W.heap[k]?) : HeapAt W' b fv A c M :=
  have e := hk b (.inl rfl)
  ⟨(World.cell?_of_block (a := ⟨b, 0, none⟩) e).trans h.h0, (World.cell?_of_block (a := ⟨b, 1, none⟩) e).trans h.h1, (World.frozen?_of_block (a := ⟨b, 0, none⟩) e).trans h.f0, by
    refine ⟨h.row.1, ?_⟩
    rcases h.row.2 with hn | ⟨g, cap, cur, hv, hb, hgg, rest⟩
    · exact .inl hn
    · refine .inr ⟨g, cap, cur, hv, hb, ?_, rest⟩
      injection hv with hv
      rw [hk g (.inr hv)]
      exact hgg⟩
theorem RdS.kept {B : Nat} {zs : List SpotT} (h : RdS W B A zs) (hk : ∀ k o, A = some ⟨k, o, none⟩ → W'.heap[k]? = W.heap[k]?) : RdS W' B A zs := by
  intro k s hs
  obtain ⟨g, off, rfl, hb, h0, h1, h2⟩ := h k s hs
  have e := hk g off rfl
  exact ⟨g, off, rfl, hb, (World.cell?_of_block (a := ⟨g, off + k * 3, none⟩) e).trans h0, (World.cell?_of_block (a := ⟨g, off + k * 3 + 1, none⟩) e).trans h1, (World.cell?_of_block (a := ⟨g, off + k * 3 + 2, none⟩) e).trans h2⟩
end

/-- A queue (none) or a best list of so many at most, its block, and what was put in. -/
structure HSp where
  b : Nat
  kd : Option Nat
  L : List SpotT

/-- A call's frame: only the blocks of F may be others; those of F' are of F, or new. -/
structure NextF (F F' : Nat → Prop) (W W' : World) : Prop where
  os : W'.os = W.os
  tape : W'.tape = W.tape
  output : W'.output = W.output
  size : W.heap.size ≤ W'.heap.size
  block : ∀ k, k < W.heap.size → ¬ F k → W'.heap[k]? = W.heap[k]?
  sub : ∀ k, F' k → F k ∨ W.heap.size ≤ k

def QH (F : Nat → Prop) (W : World) (b : Nat) (L : List SpotT) : Prop := ∃ A c M, (∀ k, F k ↔ Own b A k) ∧ HeapAt W b fvS A c M ∧ HeapOK ltS M ∧ M.Perm L
def BH (F : Nat → Prop) (W : World) (b m : Nat) (O : List SpotT) : Prop := ∃ A c M, (∀ k, F k ↔ Own b A k) ∧ HeapAt W b fvG A c M ∧ HeapOK gtS M ∧ M.Perm (keepS m O) ∧ W.cell? ⟨b, 2, none⟩ = some (.int .i64 m)
def H1 (F : Nat → Prop) (W : World) (s : HSp) : Prop := match s.kd with
  | none => QH F W s.b s.L
  | some m => BH F W s.b m s.L

section
variable {F : Nat → Prop} {W W' : World} {b m : Nat} {L O : List SpotT}
theorem nextF_of {A A' : Option Addr} (hF : ∀ k, F k ↔ Own b A k) (hk : Kp (BlkH b A) W W') (hs : SameOrNew A W.heap.size A') : NextF F (Own b A') W W' :=
  ⟨hk.os, hk.tape, hk.output, hk.size, fun k h1 h2 => hk.block k h1 (fun _ e => h2 ((hF k).2 (own_of e))), fun k h1 => by
    rcases h1 with rfl | e
    · exact .inl ((hF _).2 (.inl rfl))
    · exact (hs k e).imp (fun e => (hF _).2 (.inr e)) id⟩
theorem QH.lt (h : QH F W b L) : ∀ k, F k → k < W.heap.size := by
  obtain ⟨A, c, M, hF, h1, _⟩ := h
  exact fun k hk => (h1.own ((hF k).1 hk)).2
theorem BH.lt (h : BH F W b m O) : ∀ k, F k → k < W.heap.size := by
  obtain ⟨A, c, M, hF, h1, _⟩ := h
  exact fun k hk => (h1.own ((hF k).1 hk)).2
theorem H1.lt {s : HSp} (h : H1 F W s) : ∀ k, F k → k < W.heap.size := by
  obtain ⟨b, kd, L⟩ := s
  cases kd with
  | none => exact QH.lt h
  | some m => exact BH.lt h
theorem QH.kept (h : QH F W b L) (hk : ∀ k, F k → W'.heap[k]? = W.heap[k]?) : QH F W' b L := by
  obtain ⟨A, c, M, hF, h1, h2, h3⟩ := h
  exact ⟨A, c, M, hF, h1.keptB (fun k ho => hk k ((hF k).2 ho)), h2, h3⟩
theorem BH.kept (h : BH F W b m O) (hk : ∀ k, F k → W'.heap[k]? = W.heap[k]?) : BH F W' b m O := by
  obtain ⟨A, c, M, hF, h1, h2, h3, h4⟩ := h
  exact ⟨A, c, M, hF, h1.keptB (fun k ho => hk k ((hF k).2 ho)), h2, h3, (World.cell?_of_block (a := ⟨b, 2, none⟩) (hk b ((hF b).2 (.inl rfl)))).trans h4⟩
theorem H1.kept {s : HSp} (h : H1 F W s) (hk : ∀ k, F k → W'.heap[k]? = W.heap[k]?) : H1 F W' s := by
  obtain ⟨b, kd, L⟩ := s
  cases kd with
  | none => exact QH.kept h hk
  | some m => exact BH.kept h hk
end

/-- Heaps side by side: W behind X, where they were made; the blocks of P are none of theirs. -/
structure FamW (F : Nat → Nat → Prop) (P : Nat → Prop) (X W : World) (ss : List HSp) : Prop where
  at_ : ∀ i s, ss[i]? = some s → H1 (F i) W s
  apart : ∀ i j k, i < ss.length → j < ss.length → i ≠ j → F i k → ¬ F j k
  low : ∀ i k, i < ss.length → F i k → X.heap.size ≤ k
  hb : Below X.heap.size X W
  pl : ∀ k, P k → k < W.heap.size
  pf : ∀ i k, i < ss.length → P k → ¬ F i k
def Fam (P : Nat → Prop) (X W : World) (ss : List HSp) : Prop := ∃ F, FamW F P X W ss

section
variable {F : Nat → Nat → Prop} {F' P : Nat → Prop} {X W W' : World} {ss : List HSp} {i : Nat} {s' : HSp}
theorem FamW.lt (h : FamW F P X W ss) {k : Nat} (hi : i < ss.length) (hk : F i k) : k < W.heap.size := (h.at_ i _ (List.getElem?_eq_getElem hi)).lt k hk
theorem FamW.same (h : FamW F P X W ss) (hi : i < ss.length) (hn : NextF (F i) F' W W') : ∀ k, P k → W'.heap[k]? = W.heap[k]? := fun k hk => hn.block k (h.pl k hk) (h.pf i k hi hk)
theorem FamW.step (h : FamW F P X W ss) (hi : i < ss.length) (hs : H1 F' W' s') (hn : NextF (F i) F' W W') : FamW (fun j => if j = i then F' else F j) P X W' (ss.set i s') := by
  refine ⟨?_, ?_, ?_, ?_, ?_, ?_⟩
  · intro j s hj
    by_cases e : j = i
    · subst e
      rw [List.getElem?_set_self hi] at hj
      injection hj with hj
      subst hj
      simp only [if_pos]
      exact hs
    · rw [List.getElem?_set_ne (fun h => e h.symm)] at hj
      have hjl : j < ss.length := (List.getElem?_eq_some_iff.1 hj).1
      simp only [if_neg e]
      exact (h.at_ j s hj).kept (fun k hk => hn.block k (h.lt hjl hk) (h.apart j i k hjl hi e hk))
  · intro j1 j2 k h1 h2 hne
    rw [List.length_set] at h1 h2
    by_cases e1 : j1 = i
    · have e2 : ¬ j2 = i := fun e => hne (e1.trans e.symm)
      simp only [if_pos e1, if_neg e2]
      intro hk hk2
      rcases hn.sub k hk with h3 | h3
      · exact h.apart i j2 k hi h2 (fun e => e2 e.symm) h3 hk2
      · have := h.lt h2 hk2
        omega
    · by_cases e2 : j2 = i
      · simp only [if_neg e1, if_pos e2]
        intro hk hk2
        rcases hn.sub k hk2 with h3 | h3
        · exact h.apart j1 i k h1 hi e1 hk h3
        · have := h.lt h1 hk
          omega
      · simp only [if_neg e1, if_neg e2]
        exact h.apart j1 j2 k h1 h2 hne
  · intro j k h1 hk
    rw [List.length_set] at h1
    by_cases e : j = i
    · simp only [if_pos e] at hk
      rcases hn.sub k hk with h3 | h3
      · exact h.low i k hi h3
      · have := h.hb.size
        omega
    · simp only [if_neg e] at hk
      exact h.low j k h1 hk
  · refine h.hb.trans ⟨hn.os, hn.tape, hn.output, hn.size, fun k hk => hn.block k (Nat.lt_of_lt_of_le hk h.hb.size) (fun e => ?_)⟩
    have := h.low i k hi e
    omega
  · exact fun k hk => Nat.lt_of_lt_of_le (h.pl k hk) hn.size
  · intro j k h1 hk hf
    rw [List.length_set] at h1
    by_cases e : j = i
    · simp only [if_pos e] at hf
      rcases hn.sub k hf with h3 | h3
      · exact h.pf i k hi hk h3
      · have := h.pl k hk
        omega
    · simp only [if_neg e] at hf
      exact h.pf j k h1 hk hf
/-- A block that is none of theirs stays, behind a call on one of them: as a step. -/
structure Stay (P : Nat → Prop) (W W' : World) : Prop where
  blk : ∀ k, P k → W'.heap[k]? = W.heap[k]?
  size : W.heap.size ≤ W'.heap.size
instance : CoeFun (Stay P W W') (fun _ => ∀ k, P k → W'.heap[k]? = W.heap[k]?) := ⟨Stay.blk⟩
theorem Fam.step (h : FamW F P X W ss) (hi : i < ss.length) (hs : H1 F' W' s') (hn : NextF (F i) F' W W') : Fam P X W' (ss.set i s') ∧ Stay P W W' := ⟨⟨_, h.step hi hs hn⟩, h.same hi hn, hn.size⟩
theorem Fam.below (h : Fam P X W ss) : Below X.heap.size X W := by
  obtain ⟨F, h⟩ := h
  exact h.hb
theorem Fam.adds (h : Fam P X W ss) (hb : Below W.heap.size W W') : Fam (fun k => P k ∨ (W.heap.size ≤ k ∧ k < W'.heap.size)) X W' ss := by
  obtain ⟨F, h⟩ := h
  refine ⟨F, fun i s hi => (h.at_ i s hi).kept (fun k hk => hb.block k ((h.at_ i s hi).lt k hk)), h.apart, h.low, h.hb.trans (hb.mono h.hb.size), ?_, ?_⟩
  · rintro k (hk | hk)
    · exact Nat.lt_of_lt_of_le (h.pl k hk) hb.size
    · exact hk.2
  · rintro i k hi (hk | hk)
    · exact h.pf i k hi hk
    · intro hf
      have := h.lt hi hf
      omega
theorem Fam.less {P' : Nat → Prop} (h : Fam P X W ss) (hp : ∀ k, P' k → P k) : Fam P' X W ss := by
  obtain ⟨F, h⟩ := h
  exact ⟨F, h.at_, h.apart, h.low, h.hb, fun k hk => h.pl k (hp k hk), fun i k hi hk => h.pf i k hi (hp k hk)⟩
theorem Fam.later (h : Fam P X W ss) (hb : Below W.heap.size W W') : Fam P X W' ss := (h.adds hb).less (fun _ hk => .inl hk)
theorem Fam.nil (X : World) (hp : ∀ k, P k → k < X.heap.size) : Fam P X X [] := ⟨fun _ _ => False, fun i s hi => by simp at hi, fun i j k hi => by simp at hi, fun i k hi => by simp at hi, Below.refl _ _, hp, fun i k hi => by simp at hi⟩
theorem FamW.snoc (h : FamW F P X W ss) {b : Nat} (hs : H1 F' W' s') (hb : Below W.heap.size W W') (hF : ∀ k, F' k ↔ k = b) (hlt : W.heap.size ≤ b) : FamW (fun j => if j = ss.length then F' else F j) P X W' (ss ++ [s']) := by
  refine ⟨?_, ?_, ?_, h.hb.trans (hb.mono h.hb.size), fun k hk => Nat.lt_of_lt_of_le (h.pl k hk) hb.size, ?_⟩
  · intro j s hj
    by_cases e : j = ss.length
    · subst e
      rw [List.getElem?_concat_length] at hj
      injection hj with hj
      subst hj
      simp only [if_pos]
      exact hs
    · have hjl : j < ss.length := by
        have := (List.getElem?_eq_some_iff.1 hj).1
        simp at this
        omega
      rw [List.getElem?_append_left hjl] at hj
      simp only [if_neg e]
      exact (h.at_ j s hj).kept (fun k hk => hb.block k (h.lt hjl hk))
  · intro j1 j2 k h1 h2 hne
    simp only [List.length_append, List.length_cons, List.length_nil] at h1 h2
    by_cases e1 : j1 = ss.length
    · have e2 : ¬ j2 = ss.length := fun e => hne (e1.trans e.symm)
      simp only [if_pos e1, if_neg e2]
      intro hk hk2
      have h3 := (hF k).1 hk
      have := h.lt (i := j2) (by omega) hk2
      omega
    · by_cases e2 : j2 = ss.length
      · simp only [if_neg e1, if_pos e2]
        intro hk hk2
        have h3 := (hF k).1 hk2
        have := h.lt (i := j1) (by omega) hk
        omega
      · simp only [if_neg e1, if_neg e2]
        exact h.apart j1 j2 k (by omega) (by omega) hne
  · intro j k h1 hk
    simp only [List.length_append, List.length_cons, List.length_nil] at h1
    by_cases e : j = ss.length
    · simp only [if_pos e] at hk
      have h3 := (hF k).1 hk
      have := h.hb.size
      omega
    · simp only [if_neg e] at hk
      exact h.low j k (by omega) hk
  · intro j k h1 hk hf
    simp only [List.length_append, List.length_cons, List.length_nil] at h1
    by_cases e : j = ss.length
    · simp only [if_pos e] at hf
      have h3 := (hF k).1 hf
      have := h.pl k hk
      omega
    · simp only [if_neg e] at hf
      exact h.pf j k (by omega) hk hf
theorem ownB_none {b k : Nat} : Own b none k ↔ k = b := ⟨fun h => h.elim id (fun e => by cases e), .inl⟩
theorem Fam.newQ (h : Fam P X W ss) {b : Nat} (hlt : W.heap.size ≤ b) (hh : HeapAt W' b fvS none 0 []) (hb : Below W.heap.size W W') : Fam P X W' (ss ++ [⟨b, none, []⟩]) := by
  obtain ⟨F, h⟩ := h
  exact ⟨_, h.snoc (F' := Own b none) (s' := ⟨b, none, []⟩) ⟨none, 0, [], fun _ => Iff.rfl, hh, HeapOK.nil, List.Perm.refl _⟩ hb (fun _ => ownB_none) hlt⟩
theorem keepS_nil' (m : Nat) : keepS m [] = [] := by simp [keepS, sortS_nil]
theorem Fam.newB (h : Fam P X W ss) {b m : Nat} (hlt : W.heap.size ≤ b) (hh : HeapAt W' b fvG none 0 []) (hm : W'.cell? ⟨b, 2, none⟩ = some (.int .i64 m)) (hb : Below W.heap.size W W') : Fam P X W' (ss ++ [⟨b, some m, []⟩]) := by
  obtain ⟨F, h⟩ := h
  exact ⟨_, h.snoc (F' := Own b none) (s' := ⟨b, some m, []⟩) ⟨none, 0, [], fun _ => Iff.rfl, hh, HeapOK.nil, by rw [keepS_nil'], hm⟩ hb (fun _ => ownB_none) hlt⟩
end

section
variable {P : Nat → Prop} {X W : World} {ss : List HSp} {i b m : Nat} {L : List SpotT}
theorem idx_lt {α : Type} {l : List α} {i : Nat} {a : α} (h : l[i]? = some a) : i < l.length := (List.getElem?_eq_some_iff.1 h).1
theorem Fam.push (h : Fam P X W ss) (hi : ss[i]? = some ⟨b, none, L⟩) (s : SpotT) (hn : L.length < 100000) :
    Calls Try.prog 81 #[.pointer (some ⟨b, 0, none⟩), sptV s] W fun e W' => e = .returned (.tuple #[]) ∧ Fam P X W' (ss.set i ⟨b, none, L ++ [s]⟩) ∧ Stay P W W' := by
  obtain ⟨F, h⟩ := h
  obtain ⟨A, c, M, hF, h1, h2, h3⟩ : QH (F i) W b L := h.at_ i _ hi
  refine (qPush_any h1 s (by rw [h3.length_eq]; exact hn) h2).mono ?_
  rintro e W' ⟨he, A', c', M', hh, hp, ho, hk, hs⟩
  exact ⟨he, Fam.step (s' := ⟨b, none, L ++ [s]⟩) h (idx_lt hi) ⟨A', c', M', fun _ => Iff.rfl, hh, ho, hp.trans (h3.append_right _)⟩ (nextF_of hF hk hs)⟩
theorem Fam.pop (h : Fam P X W ss) (hi : ss[i]? = some ⟨b, none, L⟩) (hn : L.length ≤ 100000) {x1 x2 x3 : Int} (hx : spAt (sortS L) 0 = ((x1, x2), x3)) :
    Calls Try.prog 77 #[.pointer (some ⟨b, 0, none⟩)] W fun e W' => e = .returned (.tuple #[.agg #[.int .u64 x1, .int .u64 x2, .int .i64 x3], .bool (decide (0 < L.length))]) ∧ Fam P X W' (ss.set i ⟨b, none, (sortS L).tail⟩) ∧ Stay P W W' := by
  obtain ⟨F, h⟩ := h
  obtain ⟨A, c, M, hF, h1, h2, h3⟩ : QH (F i) W b L := h.at_ i _ hi
  obtain ⟨e1, e2, e3⟩ := head_of h3 h2
  refine (qPop_any h1 (by rw [h3.length_eq]; exact hn) h2).mono ?_
  rintro e W' ⟨he, M', hh, hp, ho, hk⟩
  rw [e1, e3, hx] at he
  exact ⟨he, Fam.step (s' := ⟨b, none, (sortS L).tail⟩) h (idx_lt hi) ⟨A, c, M', fun _ => Iff.rfl, hh, ho, hp.trans e2⟩ (nextF_of hF hk sameOrNew_refl)⟩
theorem Fam.peek (h : Fam P X W ss) (hi : ss[i]? = some ⟨b, none, L⟩) {x1 x2 x3 : Int} (hx : spAt (sortS L) 0 = ((x1, x2), x3)) :
    Calls Try.prog 117 #[.pointer (some ⟨b, 0, none⟩)] W fun e W' => e = .returned (.tuple #[.agg #[.int .u64 x1, .int .u64 x2, .int .i64 x3], .bool (decide (0 < L.length))]) ∧ Below W.heap.size W W' := by
  obtain ⟨F, h⟩ := h
  obtain ⟨A, c, M, hF, h1, h2, h3⟩ : QH (F i) W b L := h.at_ i _ hi
  obtain ⟨e1, e2, e3⟩ := head_of h3 h2
  refine (qPeek_any h1).mono ?_
  rintro e W' ⟨he, hk⟩
  rw [e1, e3, hx] at he
  exact ⟨he, hk⟩
theorem Fam.len (h : Fam P X W ss) (hi : ss[i]? = some ⟨b, none, L⟩) : Calls Try.prog 84 #[.pointer (some ⟨b, 0, none⟩)] W fun e W' => e = .returned (.int .i64 L.length) ∧ W = W' := by
  obtain ⟨F, h⟩ := h
  obtain ⟨A, c, M, hF, h1, h2, h3⟩ : QH (F i) W b L := h.at_ i _ hi
  rw [← h3.length_eq]
  exact qLen_any h1
theorem Fam.offer (h : Fam P X W ss) (hi : ss[i]? = some ⟨b, some m, L⟩) (s : SpotT) (hn : L.length < 100000) :
    Calls Try.prog 83 #[.pointer (some ⟨b, 0, none⟩), sptV s] W fun e W' => e = .returned (.bool (offQ m L s)) ∧ Fam P X W' (ss.set i ⟨b, some m, L ++ [s]⟩) ∧ Stay P W W' := by
  obtain ⟨F, h⟩ := h
  obtain ⟨A, c, M, hF, h1, h2, h3, h4⟩ : BH (F i) W b m L := h.at_ i _ hi
  refine (bOffer_any h1 m h4 s (by rw [h3.length_eq, keepS_len]; omega) h2).mono ?_
  rintro e W' ⟨he, A', c', M', hh, hp, ho, hk, hs⟩
  rw [offB_keep h3 h2] at he
  exact ⟨he, Fam.step (s' := ⟨b, some m, L ++ [s]⟩) h (idx_lt hi) ⟨A', c', M', fun _ => Iff.rfl, hh, ho, hp.trans (offer_keep h3 h2), h1.thirdOwn hk h4⟩ (nextF_of hF hk hs)⟩
theorem last_keep {M O : List SpotT} {m : Nat} (hp : M.Perm (keepS m O)) (hh : HeapOK gtS M) : spAt M 0 = if 0 < (keepS m O).length then spAt (keepS m O) ((keepS m O).length - 1) else ((0, 0), 0) := by
  by_cases h0 : 0 < (keepS m O).length
  · rw [if_pos h0]
    exact top_last hp (keepS_sorted m O) hh h0
  · have hl := hp.length_eq
    have : M = [] := List.eq_nil_of_length_eq_zero (by omega)
    subst this
    rw [if_neg h0]
    rfl
theorem Fam.worst (h : Fam P X W ss) (hi : ss[i]? = some ⟨b, some m, L⟩) {x1 x2 x3 : Int} (hx : (if 0 < (keepS m L).length then spAt (keepS m L) ((keepS m L).length - 1) else ((0, 0), 0)) = ((x1, x2), x3)) :
    Calls Try.prog 119 #[.pointer (some ⟨b, 0, none⟩)] W fun e W' => e = .returned (.tuple #[.agg #[.int .u64 x1, .int .u64 x2, .int .i64 x3], .bool (decide (0 < (keepS m L).length))]) ∧ Below W.heap.size W W' := by
  obtain ⟨F, h⟩ := h
  obtain ⟨A, c, M, hF, h1, h2, h3, h4⟩ : BH (F i) W b m L := h.at_ i _ hi
  have e1 := last_keep h3 h2
  rw [hx] at e1
  refine (bWorst_any h1).mono ?_
  rintro e W' ⟨he, hk⟩
  rw [e1, h3.length_eq] at he
  exact ⟨he, hk⟩
theorem Fam.full (h : Fam P X W ss) (hi : ss[i]? = some ⟨b, some m, L⟩) : Calls Try.prog 118 #[.pointer (some ⟨b, 0, none⟩)] W fun e W' => e = .returned (.bool (decide (m ≤ (keepS m L).length))) ∧ ∃ q, W' = W.drewN q := by
  obtain ⟨F, h⟩ := h
  obtain ⟨A, c, M, hF, h1, h2, h3, h4⟩ : BH (F i) W b m L := h.at_ i _ hi
  rw [← h3.length_eq]
  exact bFull_any h1 m h4
theorem Fam.list (h : Fam P X W ss) (hi : ss[i]? = some ⟨b, some m, L⟩) (hn : L.length ≤ 100000) : Calls Try.prog 85 #[.pointer (some ⟨b, 0, none⟩)] W (SpotsOut (keepS m L) W) := by
  obtain ⟨F, h⟩ := h
  obtain ⟨A, c, M, hF, h1, h2, h3, h4⟩ : BH (F i) W b m L := h.at_ i _ hi
  have := bList_any h1 (by rw [h3.length_eq, keepS_len]; omega)
  rw [sortS_perm_eq h3, sortS_keep] at this
  exact this
end

end Go.Proofs.Ytajmnhnepoomjaa
