/- The contract of vec.Check, over slices.Values. -/
import Derived.Test.YtnfcmkmjahplpaaVecDist
namespace Go.Proofs.Ytnfcmkmjahplpaa
open Go.RowKit Go.Shelf
attribute [local go_sem] Oper.semAt_some wide_fn wide_depth

set_option maxHeartbeats 400000 in
theorem values_any (A : Option Addr) (la ca : Nat) (w : World) :
    Calls Try.prog 26 #[.slice A la ca] w fun e w' => e = .returned (.func (.func 34) #[] #[.pointer (some ⟨w.heap.size, 0, none⟩)]) ∧ w' = w.alloc (.cells #[.slice A la ca] 24) := by
  go_enter Try.func26, Try.ntmps26
  go_wp2
  go_ret
  exact ⟨by simp, rfl⟩

set_option maxRecDepth 100000 in
set_option maxHeartbeats 2000000 in
theorem values1_in (m : Nat) (l n₀ Bs : Nat) (A : Option Addr) (zs : List Int) (ca : Nat) (hl : zs.length ≤ 9223372036854775807) (J Jx : List (Pl zs.length) → World → Prop)
    (hY : ∀ pre x W, J pre W → pre.length < zs.length → YieldAt Fence.wide (m - 1) Try.prog l #[.int .i32 (cpt zs x.1)] W fun e W' =>
      (e = .returned (.bool true) ∧ J (pre ++ [x]) W' ∧ Below n₀ W W') ∨ (e = .returned (.bool false) ∧ Jx (pre ++ [x]) W'))
    (W : World) (hA : Rd (Value.int .i32) W n₀ A zs) (hBs : W.cell? ⟨Bs, 0, none⟩ = some (.slice A zs.length ca)) (h0 : J [] W) :
    CallsIn Fence.wide m Try.prog 34 #[.func (.yield l) #[] #[], .pointer (some ⟨Bs, 0, none⟩)] W fun e W' => (∃ v, e = .returned v) ∧
      ((∃ pre, UpTo zs.length pre ∧ J pre W') ∨ (∃ pre, (∃ k, k ≤ zs.length ∧ UpTo k pre) ∧ Jx pre W')) := by
  refine callsIn_of_wp Try.func34 rfl trivial ?_ rfl
  simp only [Try.ntmps34, List.size_toArray, List.length_cons, List.length_nil, Nat.reduceAdd, Nat.reduceSub, Array.replicate_succ, Array.replicate_zero, List.push_toArray, List.append_toArray, List.nil_append, List.cons_append]
  gi_wp2
  gi_loopw [7] (fun i wr => ∃ (k : Nat) (pre : List (Pl zs.length)), k ≤ zs.length ∧ i = .int .i64 k ∧ UpTo k pre ∧ J pre wr ∧ Hid (Rd (Value.int .i32) wr n₀ A zs))
    (fun i _ => zs.length - (intOf i).toNat)
  case atStart => exact ⟨0, [], Nat.zero_le _, rfl, UpTo.nil, h0, hA⟩
  case round =>
    clear h0 hA hBs
    obtain ⟨k, pre, hk, rfl, hU, hJs, HA⟩ := hrel
    by_cases hlt : k < zs.length
    · obtain ⟨fn, tmps, assign, body, hyl, hR⟩ := hY pre ⟨k, hlt⟩ wr hJs (by rw [hU.len]; exact hlt)
      dsimp only at hyl
      obtain ⟨b, off, rfl, hb, hc⟩ := HA.out k _ (cpt_lt hlt)
      have hkl : (k : Int) < (zs.length : Int) := by omega
      have hk0 : (0 : Int) ≤ (k : Int) := by omega
      gi_wp2
      refine hR.mono ?_
      rintro e W3 (⟨rfl, hJ3, hk3⟩ | ⟨rfl, hJx3⟩)
      · have HA3 : Hid (Rd (Value.int .i32) W3 n₀ (some ⟨b, off, none⟩) zs) := HA.out.below hk3
        gi_wp2
        go_roundw
        case rel => exact ⟨k + 1, pre ++ [⟨k, hlt⟩], by omega, by go_num, hU.snoc hlt, hJ3, HA3⟩
        case measure => simp [intOf]; omega
      · gi_wp2
        refine bodyPost_ret (results_none rfl _ _ _) rfl ?_
        exact ⟨⟨_, rfl⟩, .inr ⟨pre ++ [⟨k, hlt⟩], ⟨k + 1, by omega, hU.snoc hlt⟩, hJx3⟩⟩
    · have hke : k = zs.length := by omega
      subst hke
      gi_wp2
      go_end0
      exact ⟨⟨_, rfl⟩, .inl ⟨pre, hU, hJs⟩⟩

/-- slices.Values hands back a value that goes through the components. -/
theorem values_stops (m n₀ Bs : Nat) (A : Option Addr) (zs : List Int) (ca : Nat) (hl : zs.length ≤ 9223372036854775807)
    (w : World) (hn₀ : n₀ ≤ w.heap.size) (hlB : Bs < w.heap.size) (hA : Rd (Value.int .i32) w n₀ A zs) (hBs : w.cell? ⟨Bs, 0, none⟩ = some (.slice A zs.length ca)) :
    SeqStopsK Fence.wide m Try.prog 34 #[.pointer (some ⟨Bs, 0, none⟩)] (fun x : Pl zs.length => #[Value.int .i32 (cpt zs x.1)]) (Below n₀)
      (fun pre => UpTo zs.length pre) (fun pre => ∃ k, k ≤ zs.length ∧ UpTo k pre) zs.length w := fun l J Jx W hW _ _ hY h0 =>
  values1_in m l n₀ Bs A zs ca hl J Jx hY W (hA.below (hW.mono hn₀)) ((hW.cell (p := ⟨Bs, 0, none⟩) hlB).trans hBs) h0

/-- Is a component right? -/
def okC (z : Int) : Prop := -16777216 ≤ z ∧ z ≤ 16777216
theorem okC_all {zs : List Int} {pre : List (Pl zs.length)} (h : UpTo zs.length pre) (hp : ∀ x ∈ pre, okC (cpt zs x.1)) : ∀ z ∈ zs, -16777216 ≤ z ∧ z ≤ 16777216 := by
  intro z hz
  obtain ⟨k, hk, rfl⟩ := List.getElem_of_mem hz
  have hm : k ∈ pre.map (·.1) := by rw [h]; exact List.mem_range.2 hk
  obtain ⟨x, hx, hxk⟩ := List.mem_map.1 hm
  have := hp x hx
  rw [show x.1 = k from hxk, cpt, List.getD_eq_getElem?_getD, List.getElem?_eq_getElem hk] at this
  exact this

def CheckI {n : Nat} (zs : List Int) (w : World) (pre : List (Pl n)) (W : World) : Prop :=
  (Hid (∀ x ∈ pre, okC (cpt zs x.1)) ∧ W.cell? ⟨w.heap.size, 0, none⟩ = some (.int .i64 0) ∧ W.frozen? ⟨w.heap.size, 0, none⟩ = false) ∧ Below w.heap.size w W
def CheckX {n : Nat} (zs : List Int) (w : World) (c : Code) (_ : List (Pl n)) (W : World) : Prop :=
  (c = .ret ∧ Hid (∃ x : Pl n, ¬ okC (cpt zs x.1)) ∧ W.cell? ⟨w.heap.size, 0, none⟩ = some (.int .i64 1)) ∧ Below w.heap.size w W

set_option maxRecDepth 100000 in
set_option maxHeartbeats 2000000 in
theorem Check_any (A : Option Addr) (zs : List Int) (ca : Nat) (dim : Int) (w : World) (hA : Rd (Value.int .i32) w w.heap.size A zs) (hl : zs.length ≤ 9223372036854775807) :
    Calls Try.prog 14 #[.slice A zs.length ca, .int .i64 dim] w fun e w' => e = .returned (.int .i64 (chkN zs dim)) ∧ Below w.heap.size w w' := by
  by_cases hdim : 1 ≤ dim ∧ dim ≤ 4096 ∧ (zs.length : Int) = dim
  · obtain ⟨h1, h2, h3⟩ := hdim
    have hne : ((zs.length : Int) != dim) = false := by simp [h3]
    have H3 := Lib.hid h3
    clear h3
    refine (callsIn_wide (n := 3)).1 ?_
    refine callsIn_of_wp_marks Try.func14 rfl trivial ?_ rfl
    simp only [Try.ntmps14, List.size_toArray, List.length_cons, List.length_nil, Nat.reduceAdd, Nat.reduceSub, Array.replicate_succ, Array.replicate_zero, List.push_toArray, List.append_toArray, List.nil_append, List.cons_append]
    gi_wp2_with (gi_at_call 26; refine CallsIn.mono (callsIn_wide.2 (values_any _ _ _ _)) ?_; rintro e w' ⟨rfl, rfl⟩)
    have b0 := Boxed.new w 25 (.int .i64 0)
    have b1 := Boxed.new (w.alloc (.cells #[.int .i64 0] 25)) 24 (.slice A zs.length ca)
    have hB0 : Below w.heap.size w ((w.alloc (.cells #[.int .i64 0] 25)).alloc (.cells #[.slice A zs.length ca] 24)) :=
      ((Below.refl _ w).alloc (Nat.le_refl _) _).alloc (by simp) _
    simp only [World.size_alloc] at b1
    refine wpIn_rangeFunc_ownG rfl (by decide) (gf := 34) (lb := #[.pointer (some ⟨w.heap.size + 1, 0, none⟩)]) rfl trivial (enters_of Try.func34 (by kernel_rfl) rfl)
      (values_stops (3 - 1) w.heap.size (w.heap.size + 1) A zs ca hl _ (by simp; omega) (by simp) (hA.below hB0) b1.cell) belowK_t (belowK_b (by simp; omega)) (Below.refl _ _) (fun _ => rfl)
      (fun pre W => CheckI zs w pre W) (fun c pre W => CheckX zs w c pre W)
      (OwnFrom.and (Own.from (fun s A B row hs hg hr => ⟨hs.1, cell_kept hs.2.1 hg hr, (frozen_kept hs.2.1 hg hr).trans hs.2.2⟩) _) (ownFrom_below (Nat.le_refl _) (by simp; omega)))
      (fun c => OwnFrom.and (Own.from (fun s A B row hs hg hr => ⟨hs.1, hs.2.1, cell_kept hs.2.2 hg hr⟩) _) (ownFrom_below (Nat.le_refl _) (by simp; omega)))
      ⟨⟨by rw [Hid]; simp, (b0.alloc _).cell, (b0.alloc _).frozen⟩, hB0⟩
      (fun x => { tmps := #[.slice A zs.length ca, .int .i64 dim, undef, undef, .pointer (some ⟨w.heap.size, 0, none⟩), .int .i32 (cpt zs x.1), .int .i64 dim, .bool (decide (dim < 1)), .bool (decide (dim < 1)), .int .i64 dim,
        .bool (decide (4096 < dim)), .bool (decide (dim < 1) || decide (4096 < dim)), .bool (decide (dim < 1) || decide (4096 < dim)), .slice A zs.length ca, .int .i64 zs.length, .int .i64 dim, .bool false,
        .bool (decide (dim < 1) || decide (4096 < dim)), .slice A zs.length ca, .func (.func 34) #[] #[.pointer (some ⟨w.heap.size + 1, 0, none⟩)], .int .i32 (cpt zs x.1), undef, undef, undef, undef, undef, undef], defers := [] }) ?assign ?body ?done ?stop
    case assign =>
      intro l x W K hK
      gi_wp2
      exact hK
    case body =>
      rintro l pre x W ⟨⟨hs, hc, hf⟩, hB⟩ _
      clear b0 b1 hB0
      by_cases hok : okC (cpt zs x.1)
      · have hs2 : Hid (∀ y ∈ pre ++ [x], okC (cpt zs y.1)) := fun y hy => (List.mem_append.1 hy).elim (hs.out y) (fun e => by simp at e; subst e; exact hok)
        obtain ⟨hk1, hk2⟩ := hok
        generalize cpt zs x.1 = z at *
        gi_wp2
        exact ⟨KeepsFrom.refl _ _, Below.refl _ _, ⟨hs2, hc, hf⟩, hB⟩
      · have hs2 : Hid (∃ x : Pl zs.length, ¬ okC (cpt zs x.1)) := ⟨x, hok⟩
        have hcase : cpt zs x.1 < -16777216 ∨ (-16777216 ≤ cpt zs x.1 ∧ 16777216 < cpt zs x.1) := by unfold okC at hok; omega
        clear hok
        generalize cpt zs x.1 = z at *
        rcases hcase with h | ⟨h, h'⟩
        all_goals
          gi_wp2
          exact ⟨(KeepsOthers.setCell _ _ _).from _, ⟨rfl, hs2, World.cell?_setCell_same' _ _ _ (by rw [hc]; rfl)⟩, hB.setCell (p := ⟨w.heap.size, 0, none⟩) (Nat.le_refl _) _⟩
    case done =>
      rintro D pre W hD hU ⟨⟨hs, hc, hf⟩, hB⟩ hK
      have HK : Hid (chkN zs dim = 0) := by rw [Hid, chkN, if_pos ⟨h1, h2, H3.out, okC_all hU hs.out⟩]
      gi_wp2
      have hK' := (KeepsOthers.setCell W ⟨w.heap.size, 0, none⟩ (.int .i64 0)).same D _ hK rfl
      refine ⟨by simp, .inl ⟨_, _, rfl, run_takeDeferred hK', ?_⟩⟩
      have hc5 := cell_kept (World.cell?_setCell_same' W ⟨w.heap.size, 0, none⟩ (.int .i64 0) (by rw [hc]; rfl)) (grownBy_putObj' _ D (.deferred none)) (fun r e => by cases e; exact ⟨_, hK', rfl⟩)
      refine ⟨.int .i64 0, ?_, by rw [HK.out], (hB.setCell (p := ⟨w.heap.size, 0, none⟩) (Nat.le_refl _) _).trans (belowK_b (w := w) (Nat.le_refl _) _ D _ _ (by simp at hD; omega) hK' rfl rfl)⟩
      simp [results, Try.f14, go_sem, hc5]
    case stop =>
      rintro D c pre W hD _ ⟨⟨rfl, hs, hc⟩, hB⟩ hK
      have HK : Hid (chkN zs dim = 1) := by
        obtain ⟨x, hx⟩ := hs.out
        rw [Hid, chkN, if_neg (fun h => hx (h.2.2.2 _ (cpt_mem x.2)))]
      gi_wp2
      refine ⟨by simp, .inl ⟨_, _, rfl, run_takeDeferred hK, ?_⟩⟩
      have hc5 := cell_kept hc (grownBy_putObj' _ D (.deferred none)) (fun r e => by cases e; exact ⟨_, hK, rfl⟩)
      refine ⟨.int .i64 1, ?_, by rw [HK.out], hB.trans (belowK_b (w := w) (Nat.le_refl _) _ D _ _ (by simp at hD; omega) hK rfl rfl)⟩
      simp [results, Try.f14, go_sem, hc5]
  · have hk : chkN zs dim = 1 := by rw [chkN, if_neg (fun h => hdim ⟨h.1, h.2.1, h.2.2.1⟩)]
    have HK := Lib.hid hk
    clear hk
    have hcase : dim < 1 ∨ (1 ≤ dim ∧ 4096 < dim) ∨ (1 ≤ dim ∧ dim ≤ 4096 ∧ ((zs.length : Int) != dim) = true) := by
      rcases Int.lt_or_le dim 1 with h | h
      · exact .inl h
      · rcases Int.lt_or_le 4096 dim with h' | h'
        · exact .inr (.inl ⟨h, h'⟩)
        · exact .inr (.inr ⟨h, h', by simpa using fun e => hdim ⟨h, h', e⟩⟩)
    clear hdim
    rcases hcase with h | ⟨h, h'⟩ | ⟨h, h', h''⟩
    all_goals
      go_enter Try.func14, Try.ntmps14
      go_wp2
      refine bodyPost_ret (v := .int .i64 1) (by simp [results, Try.f14, go_sem]) rfl ?_
      exact ⟨by rw [HK.out], (Below.refl _ w).alloc (Nat.le_refl _) _⟩

end Go.Proofs.Ytnfcmkmjahplpaa
