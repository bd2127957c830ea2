/- Three heaps side by side: a queue and two best lists. -/
import Derived.Test.YtajmnhnepoomjaaQueNil
namespace Go.Proofs.Ytajmnhnepoomjaa
open Go.RowKit Go.Shelf Go.Sort

/-- A heap's blocks. -/
def Own (b : Nat) (A : Option Addr) (k : Nat) : Prop := k = b ∨ A = some ⟨k, 0, none⟩
def Apart (b1 : Nat) (A1 : Option Addr) (b2 : Nat) (A2 : Option Addr) : Prop := ∀ k, Own b1 A1 k → ¬ Own b2 A2 k
section
variable {W W' : World} {b1 b2 c2 n : Nat} {A1 A2 A' : Option Addr} {fv2 : Value} {M2 : List SpotT}
theorem own_of {b : Nat} {A : Option Addr} {k i : Nat} (h : BlkH b A k i) : Own b A k := h.imp (fun e => e.1) id
theorem Apart.symm (h : Apart b1 A1 b2 A2) : Apart b2 A2 b1 A1 := fun k h2 h1 => h k h1 h2
theorem HeapAt.own (h : HeapAt W b2 fv2 A2 c2 M2) {k : Nat} (hk : Own b2 A2 k) : b2 ≤ k ∧ k < W.heap.size := h.blk k 0 (hk.imp (fun e => ⟨e, rfl⟩) id)
theorem HeapAt.other (h : HeapAt W b2 fv2 A2 c2 M2) (hk : Kp (BlkH b1 A1) W W') (d : Apart b1 A1 b2 A2) : HeapAt W' b2 fv2 A2 c2 M2 := h.kept hk (fun k _ hk2 e => d k (own_of e) hk2)
theorem HeapAt.third (h : HeapAt W b2 fv2 A2 c2 M2) (hk : Kp (BlkH b1 A1) W W') (d : Apart b1 A1 b2 A2) {v : Value} (hv : W.cell? ⟨b2, 2, none⟩ = some v) : W'.cell? ⟨b2, 2, none⟩ = some v :=
  (hk.cells b2 2 h.lt (fun e => d b2 (own_of e) (.inl rfl))).trans hv
theorem HeapAt.thirdOwn (h : HeapAt W b2 fv2 A2 c2 M2) (hk : Kp (BlkH b2 A2) W W') {v : Value} (hv : W.cell? ⟨b2, 2, none⟩ = some v) : W'.cell? ⟨b2, 2, none⟩ = some v := by
  refine (hk.cells b2 2 h.lt ?_).trans hv
  rintro (⟨_, e⟩ | e)
  · cases e
  · subst e
    have := (h.row.lt b2 rfl).1
    omega
theorem Apart.next (d : Apart b1 A1 b2 A2) (hs : SameOrNew A1 W.heap.size A') (h : HeapAt W b2 fv2 A2 c2 M2) : Apart b1 A' b2 A2 := by
  rintro k (rfl | e) h2
  · exact d k (.inl rfl) h2
  · rcases hs k e with h1 | h1
    · exact d k (.inr h1) h2
    · have := (h.own h2).2
      omega
theorem low_next {B : Nat} (hl : ∀ k, Own b1 A1 k → B ≤ k) (hs : SameOrNew A1 W.heap.size A') (hB : B ≤ W.heap.size) : ∀ k, Own b1 A' k → B ≤ k := by
  rintro k (rfl | e)
  · exact hl k (.inl rfl)
  · rcases hs k e with h1 | h1
    · exact hl k (.inr h1)
    · omega
end

theorem keep_next {W : World} {b1 : Nat} {A1 A' : Option Addr} {P : Nat → Prop} (hl : ∀ k, P k → k < W.heap.size) (hp : ∀ k, P k → ¬ Own b1 A1 k) (hs : SameOrNew A1 W.heap.size A') : ∀ k, P k → ¬ Own b1 A' k := by
  rintro k hk (rfl | e)
  · exact hp k hk (.inl rfl)
  · rcases hs k e with h1 | h1
    · exact hp k hk (.inr h1)
    · have := hl k hk
      omega
theorem Kp.same {W W' : World} {b1 : Nat} {A1 : Option Addr} {P : Nat → Prop} (hk : Kp (BlkH b1 A1) W W') (hl : ∀ k, P k → k < W.heap.size) (hp : ∀ k, P k → ¬ Own b1 A1 k) : ∀ k, P k → W'.heap[k]? = W.heap[k]? :=
  fun k h => hk.block k (hl k h) (fun _ e => hp k h (own_of e))

/-- Three heaps: W behind X, where they were made; the blocks of P are none of theirs. -/
structure T3 (P : Nat → Prop) (X W : World) (bq bl bn m1 m2 : Nat) (A1 : Option Addr) (c1 : Nat) (M1 : List SpotT) (A2 : Option Addr) (c2 : Nat) (M2 : List SpotT) (A3 : Option Addr) (c3 : Nat) (M3 : List SpotT) : Prop where
  h1 : HeapAt W bq fvS A1 c1 M1
  h2 : HeapAt W bl fvG A2 c2 M2
  h3 : HeapAt W bn fvG A3 c3 M3
  k2 : W.cell? ⟨bl, 2, none⟩ = some (.int .i64 m1)
  k3 : W.cell? ⟨bn, 2, none⟩ = some (.int .i64 m2)
  o1 : HeapOK ltS M1
  o2 : HeapOK gtS M2
  o3 : HeapOK gtS M3
  d12 : Apart bq A1 bl A2
  d13 : Apart bq A1 bn A3
  d23 : Apart bl A2 bn A3
  l1 : ∀ k, Own bq A1 k → X.heap.size ≤ k
  l2 : ∀ k, Own bl A2 k → X.heap.size ≤ k
  l3 : ∀ k, Own bn A3 k → X.heap.size ≤ k
  hb : Below X.heap.size X W
  pl : ∀ k, P k → k < W.heap.size
  p1 : ∀ k, P k → ¬ Own bq A1 k
  p2 : ∀ k, P k → ¬ Own bl A2 k
  p3 : ∀ k, P k → ¬ Own bn A3 k
section
variable {P : Nat → Prop} {X W W' : World} {bq bl bn m1 m2 : Nat} {A1 : Option Addr} {c1 : Nat} {M1 : List SpotT} {A2 : Option Addr} {c2 : Nat} {M2 : List SpotT} {A3 : Option Addr} {c3 : Nat} {M3 : List SpotT}
theorem T3.step1 (h : T3 P X W bq bl bn m1 m2 A1 c1 M1 A2 c2 M2 A3 c3 M3) {A : Option Addr} {c : Nat} {M : List SpotT} (hh : HeapAt W' bq fvS A c M) (ho : HeapOK ltS M) (hk : Kp (BlkH bq A1) W W') (hs : SameOrNew A1 W.heap.size A) : T3 P X W' bq bl bn m1 m2 A c M A2 c2 M2 A3 c3 M3 :=
  ⟨hh, h.h2.other hk h.d12, h.h3.other hk h.d13, h.h2.third hk h.d12 h.k2, h.h3.third hk h.d13 h.k3, ho, h.o2, h.o3, h.d12.next hs h.h2, h.d13.next hs h.h3, h.d23, low_next h.l1 hs h.hb.size, h.l2, h.l3, h.hb.trans (hk.below h.hb.size (fun k _ e => h.l1 k (own_of e))), fun k hk' => Nat.lt_of_lt_of_le (h.pl k hk') hk.size, keep_next h.pl h.p1 hs, h.p2, h.p3⟩
theorem T3.step2 (h : T3 P X W bq bl bn m1 m2 A1 c1 M1 A2 c2 M2 A3 c3 M3) {A : Option Addr} {c : Nat} {M : List SpotT} (hh : HeapAt W' bl fvG A c M) (ho : HeapOK gtS M) (hk : Kp (BlkH bl A2) W W') (hs : SameOrNew A2 W.heap.size A) : T3 P X W' bq bl bn m1 m2 A1 c1 M1 A c M A3 c3 M3 :=
  ⟨h.h1.other hk h.d12.symm, hh, h.h3.other hk h.d23, h.h2.thirdOwn hk h.k2, h.h3.third hk h.d23 h.k3, h.o1, ho, h.o3, (h.d12.symm.next hs h.h1).symm, h.d13, h.d23.next hs h.h3, h.l1, low_next h.l2 hs h.hb.size, h.l3, h.hb.trans (hk.below h.hb.size (fun k _ e => h.l2 k (own_of e))), fun k hk' => Nat.lt_of_lt_of_le (h.pl k hk') hk.size, h.p1, keep_next h.pl h.p2 hs, h.p3⟩
theorem T3.step3 (h : T3 P X W bq bl bn m1 m2 A1 c1 M1 A2 c2 M2 A3 c3 M3) {A : Option Addr} {c : Nat} {M : List SpotT} (hh : HeapAt W' bn fvG A c M) (ho : HeapOK gtS M) (hk : Kp (BlkH bn A3) W W') (hs : SameOrNew A3 W.heap.size A) : T3 P X W' bq bl bn m1 m2 A1 c1 M1 A2 c2 M2 A c M :=
  ⟨h.h1.other hk h.d13.symm, h.h2.other hk h.d23.symm, hh, h.h2.third hk h.d23.symm h.k2, h.h3.thirdOwn hk h.k3, h.o1, h.o2, ho, h.d12, (h.d13.symm.next hs h.h1).symm, (h.d23.symm.next hs h.h2).symm, h.l1, h.l2, low_next h.l3 hs h.hb.size, h.hb.trans (hk.below h.hb.size (fun k _ e => h.l3 k (own_of e))), fun k hk' => Nat.lt_of_lt_of_le (h.pl k hk') hk.size, h.p1, h.p2, keep_next h.pl h.p3 hs⟩
theorem T3.later (h : T3 P X W bq bl bn m1 m2 A1 c1 M1 A2 c2 M2 A3 c3 M3) (hk : Below W.heap.size W W') : T3 P X W' bq bl bn m1 m2 A1 c1 M1 A2 c2 M2 A3 c3 M3 :=
  ⟨h.h1.later hk, h.h2.later hk, h.h3.later hk, (hk.cell (p := ⟨bl, 2, none⟩) h.h2.lt).trans h.k2, (hk.cell (p := ⟨bn, 2, none⟩) h.h3.lt).trans h.k3, h.o1, h.o2, h.o3, h.d12, h.d13, h.d23, h.l1, h.l2, h.l3, h.hb.trans (hk.mono h.hb.size), fun k hk' => Nat.lt_of_lt_of_le (h.pl k hk') hk.size, h.p1, h.p2, h.p3⟩
theorem T3.add (h : T3 P X W bq bl bn m1 m2 A1 c1 M1 A2 c2 M2 A3 c3 M3) (o : Obj) : T3 (fun k => P k ∨ k = W.heap.size) X (W.alloc o) bq bl bn m1 m2 A1 c1 M1 A2 c2 M2 A3 c3 M3 :=
  have t := h.later ((Below.refl _ W).alloc (Nat.le_refl _) o)
  have q := fun k (e : k = W.heap.size) => (show W.heap.size < (W.alloc o).heap.size ∧ W.heap.size ≤ k by simp; omega)
  { t with
    pl := fun k hk => hk.elim (t.pl k) (fun e => by have := q k e; omega)
    p1 := fun k hk => hk.elim (t.p1 k) (fun e ho => by have := (h.h1.own ho).2; have := q k e; omega)
    p2 := fun k hk => hk.elim (t.p2 k) (fun e ho => by have := (h.h2.own ho).2; have := q k e; omega)
    p3 := fun k hk => hk.elim (t.p3 k) (fun e ho => by have := (h.h3.own ho).2; have := q k e; omega) }
end

/-- The top of a best list is the last of its list in order. -/
theorem top_last {M K : List SpotT} (hp : M.Perm K) (hs : K.Pairwise (fun x y => leS x y = true)) (hh : HeapOK gtS M) (h0 : 0 < K.length) : spAt M 0 = spAt K (K.length - 1) := by
  have hM : 0 < M.length := by rw [hp.length_eq]; exact h0
  have h1 : leS (spAt M 0) (spAt K (K.length - 1)) = true := by
    obtain ⟨j, hj, e⟩ := mem_spAt (hp.subset (spAt_mem hM))
    rw [← e]
    by_cases hjl : j = K.length - 1
    · rw [hjl]; exact (leS_iff _ _).2 (ordS.irr _)
    · rw [spAt_get hj, spAt_get (by omega)]
      exact (List.pairwise_iff_getElem.1 hs) j (K.length - 1) hj (by omega) (by omega)
  exact leS_anti _ _ h1 (top_most hh (hp.symm.subset (spAt_mem (by omega))))
/-- Is a spot put in, by what was offered before? -/
def offQ (m : Nat) (O : List SpotT) (s : SpotT) : Bool := decide ((keepS m O).length < m) || (decide (0 < (keepS m O).length) && ltS s (spAt (keepS m O) ((keepS m O).length - 1)))
theorem offB_keep {m : Nat} {M O : List SpotT} {s : SpotT} (hp : M.Perm (keepS m O)) (hh : HeapOK gtS M) : offB m M s = offQ m O s := by
  unfold offB offQ
  rw [hp.length_eq]
  by_cases h0 : 0 < (keepS m O).length
  · rw [top_last hp (keepS_sorted m O) hh h0]
  · rw [decide_eq_false h0]
    rfl

/-- Three heaps, told by what they hold: the queue L1 (in order), the best lists of all that was offered. -/
def T (P : Nat → Prop) (X W : World) (bq bl bn m1 m2 : Nat) (L1 O2 O3 : List SpotT) : Prop :=
  ∃ A1 c1 M1 A2 c2 M2 A3 c3 M3, T3 P X W bq bl bn m1 m2 A1 c1 M1 A2 c2 M2 A3 c3 M3 ∧ M1.Perm L1 ∧ M2.Perm (keepS m1 O2) ∧ M3.Perm (keepS m2 O3)
section
variable {P : Nat → Prop} {X W W' : World} {bq bl bn m1 m2 : Nat} {L1 O2 O3 : List SpotT}
theorem T.later (h : T P X W bq bl bn m1 m2 L1 O2 O3) (hk : Below W.heap.size W W') : T P X W' bq bl bn m1 m2 L1 O2 O3 := by
  obtain ⟨A1, c1, M1, A2, c2, M2, A3, c3, M3, t, p1, p2, p3⟩ := h
  exact ⟨A1, c1, M1, A2, c2, M2, A3, c3, M3, t.later hk, p1, p2, p3⟩
theorem T.add (h : T P X W bq bl bn m1 m2 L1 O2 O3) (o : Obj) : T (fun k => P k ∨ k = W.heap.size) X (W.alloc o) bq bl bn m1 m2 L1 O2 O3 := by
  obtain ⟨A1, c1, M1, A2, c2, M2, A3, c3, M3, t, p1, p2, p3⟩ := h
  exact ⟨A1, c1, M1, A2, c2, M2, A3, c3, M3, t.add o, p1, p2, p3⟩
theorem T.below (h : T P X W bq bl bn m1 m2 L1 O2 O3) : Below X.heap.size X W := by
  obtain ⟨A1, c1, M1, A2, c2, M2, A3, c3, M3, t, p1, p2, p3⟩ := h
  exact t.hb
theorem T.push (h : T P X W bq bl bn m1 m2 L1 O2 O3) (s : SpotT) (hn : L1.length < 100000) :
    Calls Try.prog 81 #[.pointer (some ⟨bq, 0, none⟩), sptV s] W fun e W' => e = .returned (.tuple #[]) ∧ T P X W' bq bl bn m1 m2 (L1 ++ [s]) O2 O3 ∧ ∀ k, P k → W'.heap[k]? = W.heap[k]? := by
  obtain ⟨A1, c1, M1, A2, c2, M2, A3, c3, M3, t, p1, p2, p3⟩ := h
  refine (qPush_any t.h1 s (by rw [p1.length_eq]; exact hn) t.o1).mono ?_
  rintro e W' ⟨he, A, c, M, hh, hp, ho, hk, hs⟩
  exact ⟨he, ⟨A, c, M, A2, c2, M2, A3, c3, M3, t.step1 hh ho hk hs, hp.trans (p1.append_right _), p2, p3⟩, hk.same t.pl t.p1⟩
theorem T.offer2 (h : T P X W bq bl bn m1 m2 L1 O2 O3) (s : SpotT) (hn : O2.length < 100000) :
    Calls Try.prog 83 #[.pointer (some ⟨bl, 0, none⟩), sptV s] W fun e W' => e = .returned (.bool (offQ m1 O2 s)) ∧ T P X W' bq bl bn m1 m2 L1 (O2 ++ [s]) O3 ∧ ∀ k, P k → W'.heap[k]? = W.heap[k]? := by
  obtain ⟨A1, c1, M1, A2, c2, M2, A3, c3, M3, t, p1, p2, p3⟩ := h
  refine (bOffer_any t.h2 m1 t.k2 s (by rw [p2.length_eq, keepS_len]; omega) t.o2).mono ?_
  rintro e W' ⟨he, A, c, M, hh, hp, ho, hk, hs⟩
  rw [offB_keep p2 t.o2] at he
  exact ⟨he, ⟨A1, c1, M1, A, c, M, A3, c3, M3, t.step2 hh ho hk hs, p1, hp.trans (offer_keep p2 t.o2), p3⟩, hk.same t.pl t.p2⟩
theorem T.offer3 (h : T P X W bq bl bn m1 m2 L1 O2 O3) (s : SpotT) (hn : O3.length < 100000) :
    Calls Try.prog 83 #[.pointer (some ⟨bn, 0, none⟩), sptV s] W fun e W' => e = .returned (.bool (offQ m2 O3 s)) ∧ T P X W' bq bl bn m1 m2 L1 O2 (O3 ++ [s]) ∧ ∀ k, P k → W'.heap[k]? = W.heap[k]? := by
  obtain ⟨A1, c1, M1, A2, c2, M2, A3, c3, M3, t, p1, p2, p3⟩ := h
  refine (bOffer_any t.h3 m2 t.k3 s (by rw [p3.length_eq, keepS_len]; omega) t.o3).mono ?_
  rintro e W' ⟨he, A, c, M, hh, hp, ho, hk, hs⟩
  rw [offB_keep p3 t.o3] at he
  exact ⟨he, ⟨A1, c1, M1, A2, c2, M2, A, c, M, t.step3 hh ho hk hs, p1, p2, hp.trans (offer_keep p3 t.o3)⟩, hk.same t.pl t.p3⟩
/-- What a queue tells: the first of those in order, if there is one. -/
theorem head_of {M L : List SpotT} (hp : M.Perm L) (ho : HeapOK ltS M) : spAt M 0 = spAt (sortS L) 0 ∧ (dropS M).Perm (sortS L).tail ∧ decide (0 < M.length) = decide (0 < L.length) := by
  have hl := hp.length_eq
  have hps : M.Perm (sortS L) := hp.trans (sortS_perm L).symm
  have hso := sortS_sorted L
  cases e : sortS L with
  | nil =>
    rw [e] at hps
    have := hps.eq_nil
    subst this
    exact ⟨rfl, by simp [dropS], by rw [hl]⟩
  | cons x r =>
    rw [e] at hps hso
    obtain ⟨h1, h2⟩ := pop_heap hps hso ho
    exact ⟨h1, h2, by rw [hl]⟩
theorem T.pop (h : T P X W bq bl bn m1 m2 L1 O2 O3) (hn : L1.length ≤ 100000) :
    Calls Try.prog 77 #[.pointer (some ⟨bq, 0, none⟩)] W fun e W' => e = .returned (.tuple #[sptV (spAt (sortS L1) 0), .bool (decide (0 < L1.length))]) ∧ T P X W' bq bl bn m1 m2 (sortS L1).tail O2 O3 ∧ ∀ k, P k → W'.heap[k]? = W.heap[k]? := by
  obtain ⟨A1, c1, M1, A2, c2, M2, A3, c3, M3, t, p1, p2, p3⟩ := h
  obtain ⟨e1, e2, e3⟩ := head_of p1 t.o1
  refine (qPop_any t.h1 (by rw [p1.length_eq]; exact hn) t.o1).mono ?_
  rintro e W' ⟨he, M, hh, hp, ho, hk⟩
  rw [e1, e3] at he
  exact ⟨he, ⟨A1, c1, M, A2, c2, M2, A3, c3, M3, t.step1 hh ho hk sameOrNew_refl, hp.trans e2, p2, p3⟩, hk.same t.pl t.p1⟩
theorem T.peek (h : T P X W bq bl bn m1 m2 L1 O2 O3) :
    Calls Try.prog 117 #[.pointer (some ⟨bq, 0, none⟩)] W fun e W' => e = .returned (.tuple #[sptV (spAt (sortS L1) 0), .bool (decide (0 < L1.length))]) ∧ T P X W' bq bl bn m1 m2 L1 O2 O3 ∧ Below W.heap.size W W' := by
  have hT := h
  obtain ⟨A1, c1, M1, A2, c2, M2, A3, c3, M3, t, p1, p2, p3⟩ := h
  obtain ⟨e1, e2, e3⟩ := head_of p1 t.o1
  refine (qPeek_any t.h1).mono ?_
  rintro e W' ⟨he, hk⟩
  rw [e1, e3] at he
  exact ⟨he, hT.later hk, hk⟩
/-- Pop and Peek, where the queue in order is known. -/
theorem T.popc (h : T P X W bq bl bn m1 m2 L1 O2 O3) (hn : L1.length ≤ 100000) {x1 x2 x3 : Int} {r : List SpotT} (hs : sortS L1 = ((x1, x2), x3) :: r) :
    Calls Try.prog 77 #[.pointer (some ⟨bq, 0, none⟩)] W fun e W' => e = .returned (.tuple #[.agg #[.int .u64 x1, .int .u64 x2, .int .i64 x3], .bool true]) ∧ T P X W' bq bl bn m1 m2 r O2 O3 ∧ ∀ k, P k → W'.heap[k]? = W.heap[k]? := by
  have hl : 0 < L1.length := by rw [← sortS_len L1, hs]; simp
  have hp := h.pop hn
  rw [hs, decide_eq_true hl] at hp
  exact hp
theorem T.peekc (h : T P X W bq bl bn m1 m2 L1 O2 O3) {x1 x2 x3 : Int} {r : List SpotT} (hs : sortS L1 = ((x1, x2), x3) :: r) :
    Calls Try.prog 117 #[.pointer (some ⟨bq, 0, none⟩)] W fun e W' => e = .returned (.tuple #[.agg #[.int .u64 x1, .int .u64 x2, .int .i64 x3], .bool true]) ∧ T P X W' bq bl bn m1 m2 L1 O2 O3 ∧ Below W.heap.size W W' := by
  have hl : 0 < L1.length := by rw [← sortS_len L1, hs]; simp
  have hp := h.peek
  rw [hs, decide_eq_true hl] at hp
  exact hp
theorem T.len (h : T P X W bq bl bn m1 m2 L1 O2 O3) : Calls Try.prog 84 #[.pointer (some ⟨bq, 0, none⟩)] W fun e W' => e = .returned (.int .i64 L1.length) ∧ W = W' := by
  obtain ⟨A1, c1, M1, A2, c2, M2, A3, c3, M3, t, p1, p2, p3⟩ := h
  rw [← p1.length_eq]
  exact qLen_any t.h1
theorem sortS_perm_eq {L K : List SpotT} (h : L.Perm K) : sortS L = sortS K := sortS_eq ((sortS_perm K).trans h.symm) (sortS_sorted K)
theorem sortS_keep (m : Nat) (O : List SpotT) : sortS (keepS m O) = keepS m O := sortS_eq (List.Perm.refl _) (keepS_sorted m O)
theorem T.worstc (h : T P X W bq bl bn m1 m2 L1 O2 O3) {x1 x2 x3 : Int} {r : List SpotT} (hs : keepS m1 O2 = r ++ [((x1, x2), x3)]) :
    Calls Try.prog 119 #[.pointer (some ⟨bl, 0, none⟩)] W fun e W' => e = .returned (.tuple #[.agg #[.int .u64 x1, .int .u64 x2, .int .i64 x3], .bool true]) ∧ T P X W' bq bl bn m1 m2 L1 O2 O3 ∧ Below W.heap.size W W' := by
  have hT := h
  obtain ⟨A1, c1, M1, A2, c2, M2, A3, c3, M3, t, p1, p2, p3⟩ := h
  have hl : (keepS m1 O2).length = r.length + 1 := by rw [hs]; simp
  have e1 := top_last p2 (keepS_sorted m1 O2) t.o2 (by omega)
  rw [hl, Nat.add_sub_cancel, hs] at e1
  have e2 : spAt (r ++ [((x1, x2), x3)]) r.length = ((x1, x2), x3) := by simp [spAt]
  rw [e2] at e1
  refine (bWorst_any t.h2).mono ?_
  rintro e W' ⟨he, hk⟩
  rw [e1, decide_eq_true (show 0 < M2.length by rw [p2.length_eq]; omega)] at he
  exact ⟨he, hT.later hk, hk⟩
theorem T.full2 (h : T P X W bq bl bn m1 m2 L1 O2 O3) : Calls Try.prog 118 #[.pointer (some ⟨bl, 0, none⟩)] W fun e W' => e = .returned (.bool (decide (m1 ≤ (keepS m1 O2).length))) ∧ ∃ q, W' = W.drewN q := by
  obtain ⟨A1, c1, M1, A2, c2, M2, A3, c3, M3, t, p1, p2, p3⟩ := h
  rw [← p2.length_eq]
  exact bFull_any t.h2 m1 t.k2
theorem T.full3 (h : T P X W bq bl bn m1 m2 L1 O2 O3) : Calls Try.prog 118 #[.pointer (some ⟨bn, 0, none⟩)] W fun e W' => e = .returned (.bool (decide (m2 ≤ (keepS m2 O3).length))) ∧ ∃ q, W' = W.drewN q := by
  obtain ⟨A1, c1, M1, A2, c2, M2, A3, c3, M3, t, p1, p2, p3⟩ := h
  rw [← p3.length_eq]
  exact bFull_any t.h3 m2 t.k3
theorem T.list2 (h : T P X W bq bl bn m1 m2 L1 O2 O3) (hn : O2.length ≤ 100000) : Calls Try.prog 85 #[.pointer (some ⟨bl, 0, none⟩)] W (SpotsOut (keepS m1 O2) W) := by
  obtain ⟨A1, c1, M1, A2, c2, M2, A3, c3, M3, t, p1, p2, p3⟩ := h
  have := bList_any t.h2 (by rw [p2.length_eq, keepS_len]; omega)
  rw [sortS_perm_eq p2, sortS_keep] at this
  exact this
theorem T.list3 (h : T P X W bq bl bn m1 m2 L1 O2 O3) (hn : O3.length ≤ 100000) : Calls Try.prog 85 #[.pointer (some ⟨bn, 0, none⟩)] W (SpotsOut (keepS m2 O3) W) := by
  obtain ⟨A1, c1, M1, A2, c2, M2, A3, c3, M3, t, p1, p2, p3⟩ := h
  have := bList_any t.h3 (by rw [p3.length_eq, keepS_len]; omega)
  rw [sortS_perm_eq p3, sortS_keep] at this
  exact this
theorem TF.offer2 {V : World} (h : T P X W bq bl bn m1 m2 L1 O2 O3 ∧ ∀ k, P k → W.heap[k]? = V.heap[k]?) (s : SpotT) (hn : O2.length < 100000) :
    Calls Try.prog 83 #[.pointer (some ⟨bl, 0, none⟩), sptV s] W fun e W' => e = .returned (.bool (offQ m1 O2 s)) ∧ (T P X W' bq bl bn m1 m2 L1 (O2 ++ [s]) O3 ∧ ∀ k, P k → W'.heap[k]? = V.heap[k]?) :=
  (h.1.offer2 s hn).mono fun _ _ ⟨he, ht, hf⟩ => ⟨he, ht, fun k hk => (hf k hk).trans (h.2 k hk)⟩
theorem TF.drew {V : World} (h : T P X W bq bl bn m1 m2 L1 O2 O3 ∧ ∀ k, P k → W.heap[k]? = V.heap[k]?) : T P X W.drew bq bl bn m1 m2 L1 O2 O3 ∧ ∀ k, P k → W.drew.heap[k]? = V.heap[k]? := ⟨h.1.later (below_draws W 1 _), h.2⟩
end

end Go.Proofs.Ytajmnhnepoomjaa
