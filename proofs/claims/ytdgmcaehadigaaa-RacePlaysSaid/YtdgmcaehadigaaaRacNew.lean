/- race.New, by contract. -/
import Derived.Test.YtdgmcaehadigaaaRacSync
namespace Go.Proofs.Ytdgmcaehadigaaa
open Go.RowKit

/-- A watch's row, before anything is laid into it. -/
def zeroW : Array Value := (List.replicate 65 (Value.slice none 0 0) ++ [Value.map none, Value.map none, Value.slice none 0 0]).toArray
theorem info_watch : (Try.prog.info? 125).map (fun i => (i.zero, i.size)) = some (some (.agg zeroW), 68) := by kernel_rfl

/-- A watch that is new, its first k clocks laid. -/
def newTo (k : Nat) : AX := { N := fun j => if j < k then tickN zeroN j else zeroN, pn := fun _ => zeroN, wr := fun _ => 0, wt := fun _ => 0, rd := fun _ _ => 0, cl := [] }
theorem newTo_step (k : Nat) : { newTo k with N := updN (newTo k).N k (tickN zeroN k) } = newTo (k + 1) := by
  have h : updN (newTo k).N k (tickN zeroN k) = (newTo (k + 1)).N := by
    funext j
    show (if j = k then tickN zeroN k else if j < k then tickN zeroN j else zeroN) = if j < k + 1 then tickN zeroN j else zeroN
    by_cases e : j = k
    · subst e
      rw [if_pos rfl, if_pos (Nat.lt_succ_self _)]
    · rw [if_neg e]
      by_cases h : j < k
      · rw [if_pos h, if_pos (by omega)]
      · rw [if_neg h, if_neg (by omega)]
  rw [h]
  rfl
def newA : AX := newTo 65

/-- Which block is what, in a watch that is new. -/
def rhoN (s : Nat) (b : Nat) : Int × Int := if b = s + 2 then (1, 0) else if b = s then (2, 0) else if b = s + 1 then (3, 0) else (0, 0)
theorem rhoN_own {s b : Nat} (h : Owned (rhoN s) b) : s ≤ b ∧ b < s + 3 := by
  unfold Owned rhoN at h
  by_cases h1 : b = s + 2
  · omega
  · rw [if_neg h1] at h
    by_cases h2 : b = s
    · omega
    · rw [if_neg h2] at h
      by_cases h3 : b = s + 1
      · omega
      · rw [if_neg h3] at h
        exact absurd rfl h
def rowN (s : Nat) : Array Value := (zeroW.setIfInBounds 65 (.map (some s))).setIfInBounds 66 (.map (some (s + 1)))
def baseX (s : Nat) : RX := { B := s + 2, bp := s, bd := s + 1, V := fun _ => .slice none 0 0, pv := fun _ => .slice none 0 0, dp := fun _ => none, cv := .slice none 0 0, a := newTo 0 }

theorem rowN_low (s k : Nat) (hk : k < 65) : (rowN s)[k]? = some (.slice none 0 0) := by
  unfold rowN
  rw [Array.getElem?_setIfInBounds_ne (by omega), Array.getElem?_setIfInBounds_ne (by omega)]
  unfold zeroW
  rw [List.getElem?_toArray, List.getElem?_append_left (by simpa using hk), List.getElem?_replicate, if_pos hk]
theorem rowN_65 (s : Nat) : (rowN s)[65]? = some (.map (some s)) := by
  unfold rowN
  rw [Array.getElem?_setIfInBounds_ne (by omega), Array.getElem?_setIfInBounds_self_of_lt (by simp [zeroW])]
theorem rowN_66 (s : Nat) : (rowN s)[66]? = some (.map (some (s + 1))) := by
  unfold rowN
  rw [Array.getElem?_setIfInBounds_self_of_lt (by simp [zeroW])]
theorem rowN_67 (s : Nat) : (rowN s)[67]? = some (.slice none 0 0) := by
  unfold rowN
  rw [Array.getElem?_setIfInBounds_ne (by omega), Array.getElem?_setIfInBounds_ne (by omega)]
  rfl

/-- A watch that is new, its clocks not laid yet. -/
theorem Rac.base {w : World} {Z : Nat → Prop} (hZ : ∀ b, Z b → b < w.heap.size) (t : TypeId) :
    Rac (((w.alloc (.map #[] 0)).alloc (.map #[] 0)).alloc (.cells (rowN w.heap.size) t)) (fun b => Z b ∨ Owned (rhoN w.heap.size) b) 0 (rhoN w.heap.size) (baseX w.heap.size) := by
  obtain ⟨W1, hW1⟩ : ∃ W1, (w.alloc (.map #[] 0)).alloc (.map #[] 0) = W1 := ⟨_, rfl⟩
  have hs1 : W1.heap.size = w.heap.size + 2 := by rw [← hW1]; simp
  have m1 : MapV W1 w.heap.size 0 (.slice none 0 0) (fun _ => .slice none 0 0) := by
    rw [← hW1]
    exact (MapV.made w _).same (Below.heap_alloc _ _ _ (by simp))
  have m2 : MapV W1 (w.heap.size + 1) 0 nilP (fun _ => nilP) := by
    rw [← hW1]
    have := MapV.made (w.alloc (.map #[] 0)) nilP
    rwa [World.size_alloc] at this
  rw [hW1]
  have hh : (W1.alloc (.cells (rowN w.heap.size) t)).heap[w.heap.size + 2]? = some (.cells (rowN w.heap.size) t (0, 0)) := by
    rw [← hs1]
    exact heap_alloc_last W1 _
  have hc : ∀ o, (W1.alloc (.cells (rowN w.heap.size) t)).cell? ⟨w.heap.size + 2, o, none⟩ = (rowN w.heap.size)[o]? := fun o => cell_of_row _ _ o _ t (0, 0) hh
  have hf : ∀ o, (W1.alloc (.cells (rowN w.heap.size) t)).frozen? ⟨w.heap.size + 2, o, none⟩ = false := fun o => by simp only [World.frozen?]; rw [hh]; simp
  exact {
    own := fun b hb => ⟨by have := rhoN_own hb; rw [World.size_alloc]; omega, .inr hb⟩
    zlt := fun b hb => by
      rw [World.size_alloc]
      rcases hb with hb | hb
      · have := hZ b hb; omega
      · have := rhoN_own hb; omega
    rB := by show rhoN w.heap.size (w.heap.size + 2) = _; unfold rhoN; rw [if_pos rfl]
    rp := by show rhoN w.heap.size w.heap.size = _; unfold rhoN; rw [if_neg (by omega), if_pos rfl]
    rd := by show rhoN w.heap.size (w.heap.size + 1) = _; unfold rhoN; rw [if_neg (by omega), if_neg (by omega), if_pos rfl]
    wk := fun k hk => ⟨(hc k).trans (rowN_low _ k hk), hf k⟩
    ck := fun k _ => by
      show Clk _ _ (.slice none 0 0) (if k < 0 then tickN zeroN k else zeroN)
      rw [if_neg (Nat.not_lt_zero k)]
      exact Clk.nil _ _
    c65 := (hc 65).trans (rowN_65 _)
    c66 := (hc 66).trans (rowN_66 _)
    c67 := ⟨(hc 67).trans (rowN_67 _), hf 67⟩
    pm := m1.same (Below.heap_alloc _ _ _ (by omega))
    pk := fun k _ => Clk.nil _ _
    dm := m2.same (Below.heap_alloc _ _ _ (by omega))
    dt := fun k _ => .inl ⟨rfl, rfl, rfl, fun _ => rfl⟩
    cr := World.ownsRow_nil _ _ _ _
    co := fun g hg => by cases hg
    cn := Nat.le_refl _ }

/-- A watch that is new, in new memory. -/
def NewOut (w : World) (Z : Nat → Prop) (e : Ending) (w' : World) : Prop :=
  ∃ ρ X, e = .returned (.pointer (some ⟨X.B, 0, none⟩)) ∧ Rac w' (fun b => Z b ∨ Owned ρ b) 0 ρ X ∧ X.a = newA ∧ Below w.heap.size w w' ∧ ∀ b, Owned ρ b → w.heap.size ≤ b

set_option maxRecDepth 100000 in
set_option maxHeartbeats 4000000 in
theorem New_any (w : World) (Z : Nat → Prop) (hZ : ∀ b, Z b → b < w.heap.size) : Calls Try.prog 9 #[] w (NewOut w Z) := by
  have hmm := @run_makeMap Try.prog
  obtain ⟨hz, _⟩ := zero_of_info info_watch
  have h0 := Rac.base hZ 125
  have hzs : zeroW.size = 68 := by simp [zeroW]
  have hb0 : Below w.heap.size w (((w.alloc (.map #[] 0)).alloc (.map #[] 0)).alloc (.cells (rowN w.heap.size) 125)) := (((Below.refl _ w).alloc (Nat.le_refl _) _).alloc (by simp) _).alloc (by simp; omega) _
  have HT : Hid (∀ (k : Nat) (W : World), (∀ b, (Z b ∨ Owned (rhoN w.heap.size) b) → b < W.heap.size) → Calls Try.prog 70 #[.slice none 0 0, .int .i64 (k : Int)] W fun e w' => ∃ A3 m3 c3, e = .returned (.slice A3 m3 c3) ∧ Clk w' (fun b => Z b ∨ Owned (rhoN w.heap.size) b) (.slice A3 m3 c3) (tickN zeroN k) ∧ Below W.heap.size W w') := Lib.hid fun k W hW =>
    (Tick_new none [] 0 k W Rd.nil (by simp)).mono fun e w' hq => by
      obtain ⟨A3, c3, he, h3, hb3⟩ := hq
      refine ⟨_, _, _, he, ?_, hb3⟩
      have := Clk.of_new hW (show IntsNew _ W (.returned (.slice A3 _ c3)) w' from ⟨A3, c3, rfl, h3, hb3⟩) (shortL_le _)
      rw [numL_short (tickN_num (numL_num []) _)] at this
      exact this
  have HZ := Lib.hid hz
  unfold rowN at h0 hb0
  have H0 := Lib.hid h0
  have HB0 := Lib.hid hb0
  clear h0 hb0
  generalize zeroW = zw at *
  go_enter Try.func9, Try.ntmps9
  go_wp2
  generalize hW0 : ((w.alloc (.map #[] 0)).alloc (.map #[] 0)).alloc (.cells ((zw.setIfInBounds 65 (.map (some w.heap.size))).setIfInBounds 66 (.map (some (w.heap.size + 1)))) 125) = W0 at *
  go_loopw [7] (fun i wr => ∃ (k : Nat) (X : RX), k ≤ 65 ∧ i = .int .i64 k ∧ Rac wr (fun b => Z b ∨ Owned (rhoN w.heap.size) b) 0 (rhoN w.heap.size) X ∧ X.B = w.heap.size + 2 ∧ X.a = newTo k ∧ Below w.heap.size w wr) (fun i _ => 65 - (intOf i).toNat)
  case atStart => exact ⟨0, _, Nat.zero_le _, rfl, H0.out, rfl, rfl, HB0.out⟩
  case round =>
    obtain ⟨k, X, hk, rfl, hR, hB, ha, hbel⟩ := hrel
    by_cases hlt : k < 65
    · have hX0 : ∀ b, (Z b ∨ Owned (rhoN w.heap.size) b) → b < wr.drew.heap.size := hR.zlt
      have hcell := hR.wk k hlt
      rw [hB] at hcell
      have hBl : w.heap.size + 2 < wr.heap.size := by
        have := (hR.own X.B (by rw [hR.rB]; decide)).1
        omega
      obtain ⟨hc1, hc2⟩ := hcell
      have HC := Lib.hid (fun W (hb : Below wr.drew.heap.size wr.drew W) => (hb.cell (p := ⟨w.heap.size + 2, k, none⟩) hBl).trans hc1)
      have HF := Lib.hid (fun W (hb : Below wr.drew.heap.size wr.drew W) => (hb.frozen (p := ⟨w.heap.size + 2, k, none⟩) hBl).trans hc2)
      have HR := Lib.hid hR
      have HBB := Lib.hid hB
      have HA := Lib.hid ha
      have HBL := Lib.hid hbel
      clear hc1 hc2 hR hB ha hbel
      have hk0 : (0 : Int) ≤ (k : Int) := by omega
      have hk1 : (k : Int) < 65 := by omega
      go_upto_region 5 with (fail)
      go_region_with (first | (go_at_call 70; refine Calls.mono (HT.out k _ hX0) ?_; rintro e W1 ⟨A3, m3, c3, rfl, hv, hb1⟩; have q0 := HC.out _ hb1; have q1 := HF.out _ hb1))
      all_goals
        have hb2 : Below wr.heap.size wr W1 := Below.trans ((Below.refl _ _).drew) hb1
        have hw := HR.out.worker hb2 k hlt _ _ hv
        have hn := newTo_step k
        rw [HBB.out] at hw
        have HW2 := Lib.hid hw
        have HN := Lib.hid hn
        have HB3 := Lib.hid ((HBL.out.trans (hb2.mono HBL.out.size)).setCell (p := ⟨w.heap.size + 2, k, none⟩) (by show w.heap.size ≤ w.heap.size + 2; omega) (.slice A3 m3 c3))
        clear hb1 hb2 hw hn hv q0 q1
        go_wp2
        go_roundw
        case rel => exact ⟨k + 1, _, by omega, by go_num, HW2.out, rfl, by rw [← HN.out, ← HA.out], HB3.out⟩
        case measure => simp [intOf]; omega
    · obtain rfl : k = 65 := by omega
      have HO := Lib.hid (show NewOut w Z (.returned (.pointer (some ⟨X.B, 0, none⟩))) wr from ⟨_, X, rfl, hR, ha, hbel, fun b e => (rhoN_own e).1⟩)
      rw [hB] at HO
      clear hR hB ha hbel
      go_wp2
      go_ret
      exact HO.out

end Go.Proofs.Ytdgmcaehadigaaa
