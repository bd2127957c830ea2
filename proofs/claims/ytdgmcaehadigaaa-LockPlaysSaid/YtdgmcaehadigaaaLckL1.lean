/- A table of mutexes through a law's walk. -/
import Derived.Test.YtdgmcaehadigaaaLckHeld
import Derived.Test.YtdgmcaehadigaaaLits
import Derived.Test.YtdgmcaehadigaaaTold
namespace Go.Proofs.Ytdgmcaehadigaaa
open Go.RowKit

/-- A table that p leads to, in memory laid since w0, and lists beside it. -/
def L1 (w0 : World) (n : Nat) (p : Value) (x : LX) (rs : List ToldT) (w : World) : Prop :=
  ∃ B bh bw, p = .pointer (some ⟨B, 0, none⟩) ∧ Tab w B bh bw n x ∧ LFit x ∧ Below w0.heap.size w0 w ∧ (∀ b, TabM B bh bw b → w0.heap.size ≤ b) ∧ ∀ r ∈ rs, RdZ w (TabM B bh bw) r.1 r.2
section
variable {w0 w w' : World} {n m : Nat} {p : Value} {x y : LX} {rs : List ToldT}
theorem L1.later (h : L1 w0 n p x rs w) (hb : Below w.heap.size w w') : L1 w0 n p x rs w' := by
  obtain ⟨B, bh, bw, rfl, h1, h2, h3, h4, h5⟩ := h
  exact ⟨B, bh, bw, rfl, h1.later hb, h2, Below.next h3 hb, h4, fun r hr => (h5 r hr).chg (Chg.of_below (M := fun _ => False) hb) (fun _ e => e.elim)⟩
theorem L1.below (h : L1 w0 n p x rs w) : Below w0.heap.size w0 w := let ⟨_, _, _, _, _, _, h3, _⟩ := h; h3
theorem L1.fit (h : L1 w0 n p x rs w) : LFit x := let ⟨_, _, _, _, _, h2, _⟩ := h; h2
theorem L1.more (h : L1 w0 n p x rs w) (hm : n ≤ m) : L1 w0 m p x rs w := by
  obtain ⟨B, bh, bw, rfl, h1, r⟩ := h
  exact ⟨B, bh, bw, rfl, h1.more hm, r⟩
theorem L1.less (h : L1 w0 n p x rs w) {ss : List ToldT} (hs : ∀ r ∈ ss, r ∈ rs) : L1 w0 n p x ss w := by
  obtain ⟨B, bh, bw, rfl, h1, h2, h3, h4, h5⟩ := h
  exact ⟨B, bh, bw, rfl, h1, h2, h3, h4, fun r hr => h5 r (hs r hr)⟩
theorem L1.tabO (h : L1 w0 n p x rs w) : TabO w p x := let ⟨B, bh, bw, h0, h1, _⟩ := h; .inr ⟨B, bh, bw, n, h0, h1⟩
theorem L1.told (h : L1 w0 n p x rs w) {A : Option Addr} {L : List Int} (hr : (A, L) ∈ rs) : Rd (Value.int .i64) w w.heap.size A L := let ⟨_, _, _, _, _, _, _, _, h5⟩ := h; (h5 _ hr).rd
theorem L1.of_out {B bh bw : Nat} {r : Bool} {e : Ending} (hf : LFit y) (h3 : Below w0.heap.size w0 w) (h4 : ∀ b, TabM B bh bw b → w0.heap.size ≤ b) (h5 : ∀ r ∈ rs, RdZ w (TabM B bh bw) r.1 r.2) (h : TabOut w B bh bw m y r e w') : e = .returned (.bool r) ∧ L1 w0 m (.pointer (some ⟨B, 0, none⟩)) y rs w' := by
  obtain ⟨h6, h7, h8⟩ := h
  exact ⟨h6, B, bh, bw, rfl, h7, hf, h3.trans (h8.below h4 h3.size), h4, fun r hr => (h5 r hr).chg h8 (fun _ e => e)⟩
theorem LckNew_l1 (w : World) : Calls Try.prog 22 #[] w fun e w' => ∃ B, e = .returned (.pointer (some ⟨B, 0, none⟩)) ∧ L1 w 0 (.pointer (some ⟨B, 0, none⟩)) newL [] w' :=
  (LckNew_any w).mono fun e w' h => by
    obtain ⟨B, bh, bw, he, h1, h2, h3⟩ := h
    exact ⟨B, he, B, bh, bw, rfl, h1, LFit.new, h2, h3, fun r hr => by cases hr⟩
theorem Take_l1 (h : L1 w0 n p x rs w) (hn : n < 100000) (v k : Int) (hv : IsI v) (hk : IsI k) :
    Calls Try.prog 26 #[p, .int .i64 v, .int .i64 k] w fun e w' => e = .returned (.bool (takeB x v k)) ∧ L1 w0 (n + 1) p (takeX x v k) rs w' := by
  obtain ⟨B, bh, bw, rfl, h1, h2, h3, h4, h5⟩ := h
  exact (Take_any h1 h2 hn v k hv hk).mono fun e w' ho => L1.of_out (h2.take v k) h3 h4 h5 ho
theorem Give_l1 (h : L1 w0 n p x rs w) (v k : Int) (hv : IsI v) (hk : IsI k) :
    Calls Try.prog 24 #[p, .int .i64 v, .int .i64 k] w fun e w' => e = .returned (.bool (giveB x v k)) ∧ L1 w0 n p (giveX x v k) rs w' := by
  obtain ⟨B, bh, bw, rfl, h1, h2, h3, h4, h5⟩ := h
  exact (Give_any h1 v k hv hk).mono fun e w' ho => L1.of_out (h2.give v k) h3 h4 h5 ho
theorem Holder_l1 (h : L1 w0 n p x rs w) (k : Int) (hk : IsI k) :
    Calls Try.prog 27 #[p, .int .i64 k] w fun e w' => e = .returned (.tuple #[.int .i64 ((hold x.hs k).getD 0), .bool (hold x.hs k).isSome]) ∧ w = w' := Holder_any h.tabO k hk
theorem Waits_l1 (h : L1 w0 n p x rs w) (k : Int) (hk : IsI k) :
    Calls Try.prog 29 #[p, .int .i64 k] w fun e w' => e = .returned (.tuple #[.int .i64 ((waitOf x.ws k).getD 0), .bool (waitOf x.ws k).isSome]) ∧ w = w' := Waits_any h.tabO k hk
theorem Rising_l1 (h : L1 w0 n p x rs w) : Calls Try.prog 31 #[p] w fun e w' => e = .returned (.bool x.up) ∧ w = w' := Rising_tab h.tabO
theorem L1.new (h : L1 w0 n p x rs w) {L : List Int} {e : Ending} (ho : IntsNew L w e w') : ∃ A c, e = .returned (.slice A L.length c) ∧ L1 w0 n p x ((A, L) :: rs) w' := by
  obtain ⟨A, c, he, hr, hb⟩ := ho
  obtain ⟨B, bh, bw, rfl, h1, h2, h3, h4, h5⟩ := h
  refine ⟨A, c, he, B, bh, bw, rfl, h1.later hb, h2, Below.next h3 hb, h4, fun r hr' => ?_⟩
  rcases List.mem_cons.1 hr' with rfl | hr'
  · intro k z hk
    obtain ⟨b, off, e1, e2, e3, e4⟩ := hr k z hk
    exact ⟨b, off, e1, e3, fun e => by have := h1.mlt e; omega, e4⟩
  · exact (h5 r hr').chg (Chg.of_below (M := fun _ => False) hb) (fun _ e => e.elim)
/-- A struct of a flag and two numbers that the law lays beside the table. -/
theorem L1.box (h : L1 w0 n p x rs w) (b : Value) (v m : Int) (t : TypeId) : L1 w0 n p x ((Option.some ⟨w.heap.size, 1, none⟩, [v, m]) :: rs) (w.alloc (.cells #[b, .int .i64 v, .int .i64 m] t)) := by
  have hh : ∀ j, (w.alloc (.cells #[b, .int .i64 v, .int .i64 m] t)).cell? ⟨w.heap.size, j, none⟩ = #[b, .int .i64 v, .int .i64 m][j]? := fun j => cell_of_row _ _ j _ t (0, 0) (heap_alloc_last w _)
  have hn : IntsNew [v, m] w (.returned (.slice (Option.some ⟨w.heap.size, 1, none⟩) [v, m].length 0)) (w.alloc (.cells #[b, .int .i64 v, .int .i64 m] t)) := by
    refine ⟨_, _, rfl, fun k z hk => ⟨w.heap.size, 1, rfl, Nat.le_refl _, by simp, ?_⟩, (Below.refl _ w).alloc (Nat.le_refl _) _⟩
    rw [hh]
    match k, hk with
    | 0, hk => simp at hk; subst hk; rfl
    | 1, hk => simp at hk; subst hk; rfl
  obtain ⟨A, c, he, h1⟩ := h.new hn
  injection he with he
  injection he with he
  subst he
  exact h1
theorem L1.inBox (h : L1 w0 n p x rs w) {b : Nat} {v m : Int} (hr : (Option.some ⟨b, 1, none⟩, [v, m]) ∈ rs) : w.cell? ⟨b, 1, none⟩ = Option.some (.int .i64 v) ∧ w.cell? ⟨b, 2, none⟩ = Option.some (.int .i64 m) := by
  have ht := h.told hr
  obtain ⟨b0, o0, e0, _, h0⟩ := ht 0 v rfl
  obtain ⟨b1, o1, e1, _, h1⟩ := ht 1 m rfl
  injection e0 with e0
  injection e0 with e0 e0'
  injection e1 with e1
  injection e1 with e1 e1'
  subst e0 e0' e1 e1'
  exact ⟨h0, h1⟩
theorem Ring_l1 (h : L1 w0 n p x rs w) {L : List Int} {l : Nat} (hL : ringP x = L) (hl : L.length = l) : Calls Try.prog 32 #[p] w fun e w' => ∃ A c, e = .returned (.slice A l c) ∧ L1 w0 n p x ((A, L) :: rs) w' := by
  subst hl hL
  exact (Ring_any h.tabO h.fit).mono fun e w' ho => h.new ho
theorem Held_l1 (h : L1 w0 n p x rs w) (v : Int) {L : List Int} {l : Nat} (hL : heldL x.hs v = L) (hl : L.length = l) : Calls Try.prog 34 #[p, .int .i64 v] w fun e w' => ∃ A c, e = .returned (.slice A l c) ∧ L1 w0 n p x ((A, L) :: rs) w' := by
  subst hl hL
  exact (Held_any h.tabO h.fit v).mono fun e w' ho => h.new ho
end
theorem heldL_len (L : List PrT) (w : Int) : (heldL L w).length ≤ 4097 := by
  unfold heldL heldTo
  refine Nat.le_trans (List.length_filter_le _ _) ?_
  simp
/-- A nil table takes nothing. -/
theorem Take_nil (v k : Int) (w : World) : Calls Try.prog 26 #[.pointer none, .int .i64 v, .int .i64 k] w fun e w' => e = .returned (.bool false) ∧ w = w' := by
  go_enter Try.func26, Try.ntmps26
  go_wp2
  go_ret
  exact ⟨rfl, rfl⟩

end Go.Proofs.Ytdgmcaehadigaaa
