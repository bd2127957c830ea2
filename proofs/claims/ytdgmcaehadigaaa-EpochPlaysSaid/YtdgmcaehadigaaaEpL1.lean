/- An epoch clock through a law's walk. -/
import Derived.Test.YtdgmcaehadigaaaEpFree
import Derived.Test.YtdgmcaehadigaaaEpNew
import Derived.Test.YtdgmcaehadigaaaEpLook
import Derived.Test.YtdgmcaehadigaaaTold
import Derived.Test.YtdgmcaehadigaaaShelf
namespace Go.Proofs.Ytdgmcaehadigaaa
open Go.RowKit

/-- A clock that p leads to, in memory laid since w0, and lists beside it. -/
def E1 (w0 : World) (n : Nat) (p : Value) (x : EX) (rs : List ToldT) (w : World) : Prop :=
  ∃ B bw bm lv, p = .pointer (some ⟨B, 0, none⟩) ∧ Ep w B bw bm n lv x ∧ EFit n x ∧ (∀ q ∈ x.lb, IsI q.1) ∧ Below w0.heap.size w0 w ∧ (∀ b, EpM B bw bm lv b → w0.heap.size ≤ b) ∧ ∀ r ∈ rs, RdZ w (EpM B bw bm lv) r.1 r.2
section
variable {w0 w w' : World} {n m : Nat} {p : Value} {x y : EX} {rs : List ToldT}
theorem E1.later (h : E1 w0 n p x rs w) (hb : Below w.heap.size w w') : E1 w0 n p x rs w' := by
  obtain ⟨B, bw, bm, lv, rfl, h1, h2, hI, h3, h4, h5⟩ := h
  exact ⟨B, bw, bm, lv, rfl, h1.later h2.pos hb, h2, hI, Below.next h3 hb, h4, fun r hr => (h5 r hr).chg (Chg.of_below (M := fun _ => False) hb) (fun _ e => e.elim)⟩
theorem E1.below (h : E1 w0 n p x rs w) : Below w0.heap.size w0 w := let ⟨_, _, _, _, _, _, _, _, h3, _⟩ := h; h3
theorem E1.fit (h : E1 w0 n p x rs w) : EFit n x := let ⟨_, _, _, _, _, _, h2, _⟩ := h; h2
theorem E1.more (h : E1 w0 n p x rs w) (hm : n ≤ m) : E1 w0 m p x rs w := by
  obtain ⟨B, bw, bm, lv, rfl, h1, h2, r⟩ := h
  exact ⟨B, bw, bm, lv, rfl, h1.more hm, h2.more hm, r⟩
theorem E1.less (h : E1 w0 n p x rs w) {ss : List ToldT} (hs : ∀ r ∈ ss, r ∈ rs) : E1 w0 n p x ss w := by
  obtain ⟨B, bw, bm, lv, rfl, h1, h2, hI, h3, h4, h5⟩ := h
  exact ⟨B, bw, bm, lv, rfl, h1, h2, hI, h3, h4, fun r hr => h5 r (hs r hr)⟩
theorem E1.told (h : E1 w0 n p x rs w) {A : Option Addr} {L : List Int} (hr : (A, L) ∈ rs) : Rd (Value.int .i64) w w.heap.size A L := let ⟨_, _, _, _, _, _, _, _, _, _, h5⟩ := h; (h5 _ hr).rd
/-- What lists say stays, whatever is done to the clock. -/
theorem told_kept {B bw bm : Nat} {lv lv' : Value} {A : Option Addr} {L : List Int} (h : RdZ w (EpM B bw bm lv) A L) (hc : Chg (EpM B bw bm lv) w w') (hl : ∀ g, lv'.ownBlock = some g → lv.ownBlock = some g ∨ w.heap.size ≤ g) : RdZ w' (EpM B bw bm lv') A L := fun k z hk => by
  obtain ⟨b, off, h1, h2, h3, h4⟩ := h k z hk
  refine ⟨b, off, h1, Nat.lt_of_lt_of_le h2 hc.size, fun e => ?_, (hc.cell (p := ⟨b, off + k, none⟩) h2 h3).trans h4⟩
  rcases e with e | e | e | e
  · exact h3 (.inl e)
  · exact h3 (.inr (.inl e))
  · exact h3 (.inr (.inr (.inl e)))
  · rcases hl b e with e2 | e2
    · exact h3 (.inr (.inr (.inr e2)))
    · omega
theorem E1.of_out {B bw bm : Nat} {lv : Value} {r : Value} {e : Ending} (hf : EFit m y) (hI : ∀ q ∈ y.lb, IsI q.1) (h3 : Below w0.heap.size w0 w) (h4 : ∀ b, EpM B bw bm lv b → w0.heap.size ≤ b) (h5 : ∀ r ∈ rs, RdZ w (EpM B bw bm lv) r.1 r.2) (h : EpOut w B bw bm m lv y r e w') : e = .returned r ∧ E1 w0 m (.pointer (some ⟨B, 0, none⟩)) y rs w' := by
  obtain ⟨h6, lv', h7, h8, h9⟩ := h
  refine ⟨h6, B, bw, bm, lv', rfl, h7, hf, hI, h3.trans (h8.below h4 h3.size), fun b hb => ?_, fun r hr => told_kept (h5 r hr) h8 h9⟩
  rcases hb with e | e | e | e
  · exact h4 b (.inl e)
  · exact h4 b (.inr (.inl e))
  · exact h4 b (.inr (.inr (.inl e)))
  · rcases h9 b e with e2 | e2
    · exact h4 b (.inr (.inr (.inr e2)))
    · have := h3.size; omega
theorem ENew_e1 (k : Nat) (h1 : 1 ≤ k) (h2 : k ≤ 64) (w : World) : Calls Try.prog 37 #[.int .i64 (k : Int)] w fun e w' => ∃ B, e = .returned (.tuple #[.pointer (some ⟨B, 0, none⟩), .int .i64 0]) ∧ E1 w 0 (.pointer (some ⟨B, 0, none⟩)) (newE k) [] w' :=
  (ENew_any k h1 h2 w).mono fun e w' h => by
    obtain ⟨B, bw, bm, he, g1, g2, g3⟩ := h
    exact ⟨B, he, B, bw, bm, _, rfl, g1, EFit.new h1 h2, fun q hq => (by cases hq), g2, g3, fun r hr => (by cases hr)⟩
theorem ELoad_e1 (h : E1 w0 n p x rs w) (v : Int) :
    Calls Try.prog 40 #[p, .int .i64 v] w fun e w' => e = .returned (.int .i64 (loadV x v : Nat)) ∧ E1 w0 n p (loadX x v) rs w' := by
  obtain ⟨B, bw, bm, lv, rfl, h1, h2, hI, h3, h4, h5⟩ := h
  refine (ELoad_any h1 h2 v).mono fun e w' ho => E1.of_out ?_ ?_ h3 h4 h5 ho
  · unfold loadX; split
    · exact h2.load _
    · exact h2
  · unfold loadX; split <;> exact hI
theorem Pin_e1 (h : E1 w0 n p x rs w) (hn : n < 100000) (v : Int) :
    Calls Try.prog 42 #[p, .int .i64 v] w fun e w' => e = .returned (.bool (pinB x v)) ∧ E1 w0 n p (pinX x v) rs w' := by
  obtain ⟨B, bw, bm, lv, rfl, h1, h2, hI, h3, h4, h5⟩ := h
  refine (Pin_any h1 h2 hn v).mono fun e w' ho => E1.of_out ?_ ?_ h3 h4 h5 ho
  · unfold pinX; split
    · exact h2.pin _
    · exact h2
  · unfold pinX; split <;> exact hI
theorem Unpin_e1 (h : E1 w0 n p x rs w) (v : Int) :
    Calls Try.prog 44 #[p, .int .i64 v] w fun e w' => e = .returned (.bool (unpinB x v)) ∧ E1 w0 n p (unpinX x v) rs w' := by
  obtain ⟨B, bw, bm, lv, rfl, h1, h2, hI, h3, h4, h5⟩ := h
  refine (Unpin_any h1 h2 v).mono fun e w' ho => E1.of_out ?_ ?_ h3 h4 h5 ho
  · unfold unpinX; split
    · exact h2.unpin _
    · exact h2
  · unfold unpinX; split <;> exact hI
theorem Retire_e1 (h : E1 w0 n p x rs w) (hn : n < 100000) (s : Int) (hs : IsI s) :
    Calls Try.prog 46 #[p, .int .i64 s] w fun e w' => e = .returned (.bool (!isRet x s)) ∧ E1 w0 (n + 1) p (retX x s) rs w' := by
  obtain ⟨B, bw, bm, lv, rfl, h1, h2, hI, h3, h4, h5⟩ := h
  refine (Retire_any h1 h2 hn s hs).mono fun e w' ho => E1.of_out ?_ ?_ h3 h4 h5 ho
  · unfold retX
    cases hr : isRet x s with
    | true => exact h2.more (Nat.le_succ n)
    | false => exact h2.ret hr
  · unfold retX; split
    · exact hI
    · intro q hq
      rcases List.mem_append.1 hq with hq | hq
      · exact hI q hq
      · rw [List.mem_singleton.1 hq]; exact hs
theorem Look_e1 (h : E1 w0 n p x rs w) (hn : n < 100000) :
    Calls Try.prog 48 #[p] w fun e w' => e = .returned (.bool (lookB x)) ∧ E1 w0 (n + 1) p (lookE x) rs w' := by
  obtain ⟨B, bw, bm, lv, rfl, h1, h2, hI, h3, h4, h5⟩ := h
  refine (Look_any h1 h2 hn).mono fun e w' ho => ?_
  obtain ⟨g1, lv', g2, g3, g4⟩ := ho
  refine E1.of_out h2.look ?_ h3 h4 h5 ⟨g1, lv', g2.more (Nat.le_succ n), g3, g4⟩
  unfold lookE; split
  · exact hI
  · split <;> exact hI
theorem Epoch_e1 (h : E1 w0 n p x rs w) : Calls Try.prog 52 #[p] w fun e w' => e = .returned (.int .i64 (x.e : Nat)) ∧ w = w' := by
  obtain ⟨B, bw, bm, lv, rfl, h1, _⟩ := h
  exact Epoch_any h1
theorem Rec_e1 (h : E1 w0 n p x rs w) (v : Int) : Calls Try.prog 53 #[p, .int .i64 v] w fun e w' => e = .returned (.int .i64 (recV x v : Nat)) ∧ w = w' := by
  obtain ⟨B, bw, bm, lv, rfl, h1, _⟩ := h
  exact Rec_any h1 v
theorem Free_e1 (h : E1 w0 n p x rs w) (hn : n < 100000) {L : List Int} {l : Nat} (hL : (freeL1 x).map (·.1) = L) (hl : L.length = l) : Calls Try.prog 50 #[p] w fun e w' => ∃ A c, e = .returned (.slice A l c) ∧ E1 w0 n p (freeE x) ((A, L) :: rs) w' := by
  subst hl hL
  obtain ⟨B, bw, bm, lv, rfl, h1, h2, hI, h3, h4, h5⟩ := h
  refine (Free_any h1 h2 hn hI).mono fun e w' ho => ?_
  obtain ⟨A, c, he, hr, lv', g2, g3, g4⟩ := ho
  have hs := h3.size
  refine ⟨A, c, he, B, bw, bm, lv', rfl, g2, h2.free, fun q hq => hI q ((drop_sub _ _).subset hq), h3.trans (g3.below h4 hs), fun b hb => ?_, fun r hr' => ?_⟩
  · rcases hb with e | e | e | e
    · exact h4 b (.inl e)
    · exact h4 b (.inr (.inl e))
    · exact h4 b (.inr (.inr (.inl e)))
    · exact h4 b (.inr (.inr (.inr (g4 b e))))
  · rcases List.mem_cons.1 hr' with rfl | hr'
    · intro k z hk
      obtain ⟨b, off, e1, e2, e3, e4⟩ := hr k z hk
      refine ⟨b, off, e1, e3, fun e => ?_, e4⟩
      have : b < w.heap.size := by
        rcases e with e | e | e | e
        · exact h1.mlt h2.pos (.inl e)
        · exact h1.mlt h2.pos (.inr (.inl e))
        · exact h1.mlt h2.pos (.inr (.inr (.inl e)))
        · exact h1.mlt h2.pos (.inr (.inr (.inr (g4 b e))))
      omega
    · exact told_kept (h5 r hr') g3 (fun g hg => .inl (g4 g hg))
/-- What is retired, told anew: how much it is. -/
theorem Limbo_e1 (h : E1 w0 n p x rs w) (hn : n < 100000) {l : Nat} (hl : x.lb.length = l) : Calls Try.prog 55 #[p] w fun e w' => ∃ A c, e = .returned (.slice A l c) ∧ RdR w' w'.heap.size A x.lb ∧ Below w.heap.size w w' := by
  subst hl
  obtain ⟨B, bw, bm, lv, rfl, h1, h2, hI, h3, h4, h5⟩ := h
  obtain ⟨i0, hi0, hz0, hz1, hz2⟩ := info_parts info_ref
  obtain ⟨A, c, hlv, hlc, hcm⟩ := ownSlice h1.row
  have hrow := h1.row
  have c2 := h1.c2.1
  have hln := h2.ln
  rw [hlv] at hrow c2
  have HC : Hid (Calls Try.prog 97 #[.slice A x.lb.length c] w fun e w' => ∃ A c, e = .returned (.slice A x.lb.length c) ∧ RdR w' w'.heap.size A x.lb ∧ Below w.heap.size w w') := by
    rcases hrow.2 with ⟨hv, hz⟩ | ⟨g, cap, cur, hv, _, hh, k1, k2, k3, k4⟩
    · injection hv with e1 e2 e3
      subst e1 e3
      have hnil : x.lb = [] := List.eq_nil_of_length_eq_zero hz
      refine Lib.hid ((AnyE.slices_Clone_nil Try.cloneRef x.lb.length 0 w).mono fun e w' ho => ?_)
      obtain ⟨he, rfl⟩ := ho
      refine ⟨none, 0, ?_, ?_, Below.refl _ _⟩
      · rw [he, hz]
      · rw [hnil]
        intro k q hq
        simp at hq
    · injection hv with e1 e2 e3
      subst e1 e3
      refine Lib.hid ((AnyE.slices_Clone Try.cloneRef i0 (.agg #[.int .i64 0, .int .i64 0]) 2 16 hi0 hz0 hz1 hz2 rfl (by decide) Try.sizeOf154 g 0 x.lb.length c (cellsR x.lb) w (cellsR_len _) (by unfold maxLen; omega) (by omega) (fun j u hj => ?_) (cellsR_one _)).mono fun e w' ho => ?_)
      · have hjl := (List.getElem?_eq_some_iff.1 hj).1
        rw [cellsR_len] at hjl
        rw [Nat.zero_add, (cell_cells hh).1, ← Array.getElem?_toList]
        have := List.getElem?_take (l := cur.toList) (i := x.lb.length * 2) (j := j)
        rw [k4, if_pos hjl, hj] at this
        exact this.symm
      · obtain ⟨v', he, hown, _, hb⟩ := ho
        obtain ⟨A2, c2, rfl, _, _⟩ := ownSlice hown
        exact ⟨A2, c2, he, RdR.of_own hown rfl, hb⟩
  clear hrow h1 h2 hI h3 h4 h5 hlv
  go_enter Try.func55, Try.ntmps55
  go_wp2_with fail
  refine HC.out.mono ?_
  rintro e w2 ⟨A2, c3, rfl, hr, he⟩
  have HR := Lib.hid hr
  have HE := Lib.hid he
  clear hr he HC
  go_wp2
  go_ret
  exact ⟨A2, c3, rfl, HR.out, HE.out⟩
end
/-- A nil clock. -/
theorem ELoad_nil (v : Int) (w : World) : Calls Try.prog 40 #[.pointer none, .int .i64 v] w fun e w' => e = .returned (.int .i64 0) ∧ w = w' := by
  go_enter Try.func40, Try.ntmps40
  go_wp2_with fail
  refine (ehas_nil _ _).mono ?_
  rintro e w1 ⟨rfl, rfl⟩
  go_wp2
  go_ret
  exact ⟨rfl, rfl⟩
theorem Pin_nil (v : Int) (w : World) : Calls Try.prog 42 #[.pointer none, .int .i64 v] w fun e w' => e = .returned (.bool false) ∧ w = w' := by
  go_enter Try.func42, Try.ntmps42
  go_wp2_with fail
  refine (ehas_nil _ _).mono ?_
  rintro e w1 ⟨rfl, rfl⟩
  go_wp2
  go_ret
  exact ⟨rfl, rfl⟩
theorem Look_nil (w : World) : Calls Try.prog 48 #[.pointer none] w fun e w' => e = .returned (.bool false) ∧ w = w' := by
  go_enter Try.func48, Try.ntmps48
  go_wp2
  go_ret
  exact ⟨rfl, rfl⟩
theorem Retire_nil (v : Int) (w : World) : Calls Try.prog 46 #[.pointer none, .int .i64 v] w fun e w' => e = .returned (.bool false) ∧ w = w' := by
  go_enter Try.func46, Try.ntmps46
  go_wp2
  go_ret
  exact ⟨rfl, rfl⟩
theorem Free_nil (w : World) : Calls Try.prog 50 #[.pointer none] w fun e w' => e = .returned (.slice none 0 0) ∧ Below w.heap.size w w' := by
  have hb : Below w.heap.size w (w.alloc (.cells #[.pointer none] 63)) := (Below.refl _ w).alloc (Nat.le_refl _) _
  go_enter Try.func50, Try.ntmps50
  go_wp2
  go_ret
  exact ⟨rfl, hb⟩
theorem Limbo_nil (w : World) : Calls Try.prog 55 #[.pointer none] w fun e w' => e = .returned (.slice none 0 0) ∧ w = w' := by
  go_enter Try.func55, Try.ntmps55
  go_wp2
  go_ret
  exact ⟨rfl, rfl⟩
theorem Epoch_nil (w : World) : Calls Try.prog 52 #[.pointer none] w fun e w' => e = .returned (.int .i64 0) ∧ w = w' := by
  go_enter Try.func52, Try.ntmps52
  go_wp2
  go_ret
  exact ⟨rfl, rfl⟩
theorem Rec_nil (v : Int) (w : World) : Calls Try.prog 53 #[.pointer none, .int .i64 v] w fun e w' => e = .returned (.int .i64 0) ∧ w = w' := by
  go_enter Try.func53, Try.ntmps53
  go_wp2_with fail
  refine (ehas_nil _ _).mono ?_
  rintro e w1 ⟨rfl, rfl⟩
  go_wp2
  go_ret
  exact ⟨rfl, rfl⟩

end Go.Proofs.Ytdgmcaehadigaaa
