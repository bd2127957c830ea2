/- A heap in memory: plain facts of its row, and its top. -/
import Derived.Test.YtajmnhnepoomjaaHeapMem
import Derived.Deep.AppendLies
namespace Go.Proofs.Ytajmnhnepoomjaa
open Go.RowKit Go.Shelf Go.Sort

theorem fore_one {lt : SpotT → SpotT → Bool} {N : List SpotT} {j c : Nat} (hO : Ord lt) (hc : 2 * j + 1 = c) (h1 : c < N.length) (hs : c + 1 < N.length → lt (spAt N (c + 1)) (spAt N c) = false) : Fore lt N j c := by
  refine ⟨by omega, h1, by omega, fun k k0 hk hp => ?_⟩
  rcases (show k = c ∨ k = c + 1 by omega) with rfl | rfl
  · exact hO.irr _
  · exact hs hk
theorem fore_two {lt : SpotT → SpotT → Bool} {N : List SpotT} {j c : Nat} (hO : Ord lt) (hc : 2 * j + 1 = c) (h1 : c + 1 < N.length) (hs : lt (spAt N (c + 1)) (spAt N c) = true) : Fore lt N j (c + 1) := by
  refine ⟨by omega, h1, by omega, fun k k0 hk hp => ?_⟩
  rcases (show k = c ∨ k = c + 1 by omega) with rfl | rfl
  · exact hO.asym _ _ hs
  · exact hO.irr _

/-- The block of a row behind an append: the old one, or a new one. -/
def SameOrNew (A : Option Addr) (n : Nat) (A' : Option Addr) : Prop := ∀ k, A' = some ⟨k, 0, none⟩ → A = some ⟨k, 0, none⟩ ∨ n ≤ k

theorem put_new (W : World) (o o' : Obj) : ((W.alloc o).alloc o').drew.heap[W.heap.size + 1]? = some o' := by
  have := heap_alloc_new (W.alloc o) o'
  rw [show (W.alloc o).heap.size = W.heap.size + 1 by simp] at this
  exact this
theorem put_cell {W : World} {a : Addr} {v : Value} (h : W.cell? a = some v) (ha : a.block < W.heap.size) (o o' : Obj) : ((W.alloc o).alloc o').drew.cell? a = some v := by
  have hb : Below W.heap.size W ((W.alloc o).alloc o').drew := (((Below.refl _ W).alloc (Nat.le_refl _) o).alloc (by simp) o').drew
  exact (hb.cell ha).trans h
theorem put_frozen {W : World} {a : Addr} {v : Bool} (h : W.frozen? a = v) (ha : a.block < W.heap.size) (o o' : Obj) : ((W.alloc o).alloc o').drew.frozen? a = v := by
  have hb : Below W.heap.size W ((W.alloc o).alloc o').drew := (((Below.refl _ W).alloc (Nat.le_refl _) o).alloc (by simp) o').drew
  exact (hb.frozen ha).trans h

theorem own_block {X : World} {base n c : Nat} {A : Option Addr} {xs : List Value} (h : X.ownsRow base 62 3 (.slice A n c) n xs) {k : Nat} (hk : (Value.slice A n c).ownBlock = some k) : A = some ⟨k, 0, none⟩ := by
  rcases h.2 with ⟨hv, _⟩ | ⟨g, cap, cur, hv, _⟩
  · injection hv with hv
    subst hv
    simp [Value.ownBlock] at hk
  · injection hv with hv
    subst hv
    simp [Value.ownBlock] at hk
    rw [hk]
theorem put_heap {W X w2 : World} {b n c gg cap : Nat} {A : Option Addr} {fv : Value} {M : List SpotT} {s : SpotT} (HB : Below W.heap.size W X) (HZ : X.heap.size = W.heap.size + 2) (C1 : X.cell? ⟨b, 1, none⟩ = some fv) (_hbw : b < W.heap.size)
    (q0 : w2.cell? ⟨b, 0, none⟩ = some (.slice A n c)) (q1 : w2.frozen? ⟨b, 0, none⟩ = false) (HNE : some b ≠ (Value.slice A n c).ownBlock) (HW : X.ownsRow (b + 1) 62 3 (.slice A n c) n (cellsS M))
    (HG : X.grownBy w2 (Value.slice A n c).ownBlock) (HO : w2.ownsRow (b + 1) 62 3 (.slice (some ⟨gg, 0, none⟩) (n + 1) cap) (n + 1) (cellsS M ++ encS s)) (HA : (Value.slice A n c).ownBlock = some gg ∨ gg = W.heap.size + 2) (hn : M.length = n) :
    HeapAt (w2.setCell ⟨b, 0, none⟩ (.slice (some ⟨gg, 0, none⟩) (n + 1) cap)) b fv (some ⟨gg, 0, none⟩) cap (M ++ [s]) ∧ Kp (BlkH b A) W (w2.setCell ⟨b, 0, none⟩ (.slice (some ⟨gg, 0, none⟩) (n + 1) cap)) ∧ SameOrNew A W.heap.size (some ⟨gg, 0, none⟩) := by
  have hl : (M ++ [s]).length = n + 1 := by simp [hn]
  have hc : cellsS (M ++ [s]) = cellsS M ++ encS s := by simp [cellsS]
  refine ⟨⟨?_, ?_, ?_, ?_⟩, ⟨HG.os.trans HB.os, HG.tape.trans HB.tape, HG.output.trans HB.output, ?_, fun k hk hn => ?_, fun k i hk hn => ?_⟩, fun k hk => ?_⟩
  · rw [hl]
    exact World.cell?_setCell_same _ _ _ q0
  · exact (World.cell?_setCell_other _ _ _ _ (by simp)).trans (HG.cell C1 HNE)
  · rw [World.frozen?_setCell]
    exact q1
  · rw [hl, hc]
    exact ownsRow_setCell_below HO (Nat.lt_succ_self b) _
  · have h1 := HB.size
    have h2 := HG.size
    simpa using Nat.le_trans h1 h2
  · rw [Below.heap_setCell _ _ _ _ (fun e => hn 0 (.inl ⟨e, rfl⟩)), HG.block k (by omega) (fun e => hn 0 (.inr (own_block HW e.symm)))]
    exact HB.block k hk
  · rw [World.cell?_setCell_other _ _ _ _ (fun e => by injection e with e1 e2; exact hn (.inl ⟨e1.symm, e2.symm⟩))]
    exact (World.cell?_of_block (a := ⟨k, i, none⟩) (HG.block k (by omega) (fun e => hn (.inr (own_block HW e.symm))))).trans (HB.cell (p := ⟨k, i, none⟩) hk)
  · injection hk with hk
    injection hk with hk
    subst hk
    rcases HA with h | h
    · exact .inl (own_block HW h)
    · exact .inr (by omega)

/-- A row keeps its first ones. -/
theorem own_short {X : World} {base n c g m : Nat} {M : List SpotT} (h : X.ownsRow base 62 3 (.slice (some ⟨g, 0, none⟩) n c) n (cellsS M)) (hm : m ≤ n) (hn : M.length = n) : X.ownsRow base 62 3 (.slice (some ⟨g, 0, none⟩) m c) m (cellsS (M.take m)) := by
  have e : (cellsS M).take (m * 3) = cellsS (M.take m) := by
    apply List.ext_getElem?
    intro j
    rw [List.getElem?_take]
    by_cases hj : j < m * 3
    · rw [if_pos hj]
      obtain ⟨k, r, hr, rfl⟩ : ∃ k r, r < 3 ∧ j = k * 3 + r := ⟨j / 3, j % 3, by omega, by omega⟩
      rw [cellsS_get M k r (by omega) hr, cellsS_get (M.take m) k r (by simp; omega) hr, List.getElem_take]
    · rw [if_neg hj, List.getElem?_eq_none (by rw [cellsS_len]; simp; omega)]
  rcases h.2 with ⟨h', _⟩ | ⟨g', cap', cur, h', hb, hg, hnc, hcm, hcs, htake⟩
  · simp at h'
  · simp only [Value.slice.injEq, Option.some.injEq, Addr.mk.injEq, and_true, true_and] at h'
    obtain ⟨rfl, rfl⟩ := h'
    refine ⟨by rw [cellsS_len]; simp; omega, .inr ⟨g, c, cur, rfl, hb, hg, by omega, hcm, hcs, ?_⟩⟩
    rw [← e, ← htake, List.take_take, Nat.min_eq_left (by omega)]

theorem set3_head {X : World} {b g n c o : Nat} {fv : Value} {M : List SpotT} (h0 : X.cell? ⟨b, 0, none⟩ = some (.slice (some ⟨g, 0, none⟩) n c)) (h1 : X.cell? ⟨b, 1, none⟩ = some fv) (f0 : X.frozen? ⟨b, 0, none⟩ = false)
    (h : X.ownsRow (b + 1) 62 3 (.slice (some ⟨g, 0, none⟩) n c) n (cellsS M)) (hn : M.length = n) (ho : o < n) (x : SpotT) :
    HeapAt (((X.setCell ⟨g, o * 3, none⟩ (.int .u64 x.1.1)).setCell ⟨g, o * 3 + 1, none⟩ (.int .u64 x.1.2)).setCell ⟨g, o * 3 + 2, none⟩ (.int .i64 x.2)) b fv (some ⟨g, 0, none⟩) c (M.set o x) := by
  have hg : b + 1 ≤ g := (h.lt g rfl).1
  have hl : (M.set o x).length = n := by simp [hn]
  have ne : ∀ p o', (⟨g, p, none⟩ : Addr) ≠ ⟨b, o', none⟩ := fun p o' e => by injection e with e; omega
  refine ⟨?_, ?_, ?_, ?_⟩
  · rw [hl, World.cell?_setCell_other _ _ _ _ (ne _ _), World.cell?_setCell_other _ _ _ _ (ne _ _), World.cell?_setCell_other _ _ _ _ (ne _ _)]
    exact h0
  · rw [World.cell?_setCell_other _ _ _ _ (ne _ _), World.cell?_setCell_other _ _ _ _ (ne _ _), World.cell?_setCell_other _ _ _ _ (ne _ _)]
    exact h1
  · simp only [World.frozen?_setCell]
    exact f0
  · rw [hl]
    exact own_set3 h o x (by omega)
theorem HeapAt.drew {X : World} {b : Nat} {fv : Value} {A : Option Addr} {c : Nat} {M : List SpotT} (h : HeapAt X b fv A c M) : HeapAt X.drew b fv A c M := ⟨h.h0, h.h1, h.f0, h.row.drew⟩

theorem head_heap {X : World} {b g n m c : Nat} {fv : Value} {M : List SpotT} (h : HeapAt X b fv (some ⟨g, 0, none⟩) c M) (hn : M.length = n) (hm : m ≤ n) :
    HeapAt (X.setCell ⟨b, 0, none⟩ (.slice (some ⟨g, 0, none⟩) m c)) b fv (some ⟨g, 0, none⟩) c (M.take m) := by
  have hl : (M.take m).length = m := by simp; omega
  have hrow := h.row
  rw [hn] at hrow
  refine ⟨?_, ?_, ?_, ?_⟩
  · rw [hl]
    exact World.cell?_setCell_same _ _ _ h.h0
  · exact (World.cell?_setCell_other _ _ _ _ (by simp)).trans h.h1
  · rw [World.frozen?_setCell]
    exact h.f0
  · rw [hl]
    exact ownsRow_setCell_below (own_short hrow hm hn) (Nat.lt_succ_self b) _
/-- What is left when the first one goes. -/
def dropS (M : List SpotT) : List SpotT := (M.set 0 (spAt M (M.length - 1))).take (M.length - 1)
theorem dropS_len (M : List SpotT) : (dropS M).length = M.length - 1 := by simp [dropS]
theorem dropS_at (M : List SpotT) (j : Nat) (h0 : 0 < j) (hj : j < M.length - 1) : spAt (dropS M) j = spAt M j := by
  unfold dropS spAt
  rw [List.getD_eq_getElem?_getD, List.getD_eq_getElem?_getD, List.getElem?_take, if_pos hj, List.getElem?_set_ne (by omega), ← List.getD_eq_getElem?_getD]

/-- The one that comes first, if there is one. -/
theorem top_any {b : Nat} {fv : Value} {A : Option Addr} {c : Nat} {M : List SpotT} {W : World} (h : HeapAt W b fv A c M) :
    Calls Try.prog 159 #[.pointer (some ⟨b, 0, none⟩)] W fun e W' => e = .returned (.tuple #[sptV (spAt M 0), .bool (decide (0 < M.length))]) ∧ Below W.heap.size W W' := by
  have c0 := h.h0
  have hbw := h.lt
  by_cases h0 : M.length = 0
  · obtain rfl := List.eq_nil_of_length_eq_zero h0
    clear h h0
    go_enter Try.func159, Try.ntmps159
    go_wp2
    have q0 : (W.alloc (.cells #[.int .u64 0, .int .u64 0, .int .i64 0] 62)).cell? ⟨W.heap.size, 0, none⟩ = some (.int .u64 0) := by go_cell
    have q1 : (W.alloc (.cells #[.int .u64 0, .int .u64 0, .int .i64 0] 62)).cell? ⟨W.heap.size, 1, none⟩ = some (.int .u64 0) := by go_cell
    have q2 : (W.alloc (.cells #[.int .u64 0, .int .u64 0, .int .i64 0] 62)).cell? ⟨W.heap.size, 2, none⟩ = some (.int .i64 0) := by go_cell
    exact bodyPost_ret (v := .tuple #[.agg #[.int .u64 0, .int .u64 0, .int .i64 0], .bool false]) (by simp [results, Try.results159, go_sem, q0, q1, q2]) rfl ⟨rfl, below_new3 W _⟩
  · obtain ⟨g, rfl, hg, hgw⟩ := ownPos h.row (by omega)
    have hA := ArrS.of_own h.row
    obtain ⟨n, hnl⟩ : ∃ n, M.length = n := ⟨_, rfl⟩
    rw [hnl] at hA h0 c0 ⊢
    have a0 := hA.c0 0 (by omega)
    have a1 := hA.c1 0 (by omega)
    have a2 := hA.c2 0 (by omega)
    have k1 : (0 : Int) < (n : Int) := by omega
    have k2 : ¬ (n : Int) = 0 := by omega
    have k3 : 0 < n := by omega
    clear h hA hnl
    generalize spAt M 0 = x at *
    obtain ⟨⟨xa, xb⟩, xc⟩ := x
    rw [decide_eq_true k3]
    simp only [Nat.zero_mul, Nat.zero_add] at a0 a1 a2
    go_enter Try.func159, Try.ntmps159
    go_wp2
    have q0 : (W.alloc (.cells #[.int .u64 xa, .int .u64 xb, .int .i64 xc] 62)).cell? ⟨W.heap.size, 0, none⟩ = some (.int .u64 xa) := by go_cell
    have q1 : (W.alloc (.cells #[.int .u64 xa, .int .u64 xb, .int .i64 xc] 62)).cell? ⟨W.heap.size, 1, none⟩ = some (.int .u64 xb) := by go_cell
    have q2 : (W.alloc (.cells #[.int .u64 xa, .int .u64 xb, .int .i64 xc] 62)).cell? ⟨W.heap.size, 2, none⟩ = some (.int .i64 xc) := by go_cell
    exact bodyPost_ret (v := .tuple #[.agg #[.int .u64 xa, .int .u64 xb, .int .i64 xc], .bool true]) (by simp [results, Try.results159, go_sem, q0, q1, q2]) rfl ⟨rfl, below_new3 W _⟩

end Go.Proofs.Ytajmnhnepoomjaa
