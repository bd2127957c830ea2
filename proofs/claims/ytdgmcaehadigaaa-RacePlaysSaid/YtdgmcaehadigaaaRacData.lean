/- race's time, knows, hiddenWriter, hiddenReader, notesOf, by contract. -/
import Derived.Test.YtdgmcaehadigaaaRacSync
namespace Go.Proofs.Ytdgmcaehadigaaa
open Go.RowKit

/-- The number of whatever is named, among numbers. -/
def atM (N : List Int) (x : Int) : Int := if 0 ≤ x ∧ x ≤ 64 then N.getD x.toNat 0 else 0
theorem atZ_atM (zs : List Int) (x : Int) : atZ zs x = atM (numL zs) x := rfl
theorem atM_nat (N : List Int) {k : Nat} (hk : k < 65) : atM N (k : Int) = N.getD k 0 := by
  rw [atM, if_pos (by omega), Int.toNat_natCast]

section
variable {w : World} {Z : Nat → Prop} {n : Nat} {ρ : Nat → Int × Int} {X : RX}
theorem time_any (h : Rac w Z n ρ X) (k : Nat) (hk : k < 65) :
    Calls Try.prog 110 #[.pointer (some ⟨X.B, 0, none⟩), .int .i64 (k : Int)] w fun e w' => e = .returned (.int .i64 ((X.a.N k).getD k 0)) ∧ w = w' := by
  obtain ⟨A, zs, c, hV, hN, hl, hr⟩ := h.clock k hk
  have hc := (h.wk k hk).1
  rw [hV] at hc
  have HQ := Lib.hid (At_any A zs c k w hr (by omega))
  rw [atZ_atM, hN, atM_nat _ hk] at HQ
  have hk0 : (0 : Int) ≤ (k : Int) := by omega
  have hk1 : (k : Int) < 65 := by omega
  clear hr hN hV h
  generalize (X.a.N k).getD k 0 = t at *
  go_enter Try.func110, Try.ntmps110
  go_wp2_with fail
  refine HQ.out.mono ?_
  rintro e w' ⟨rfl, rfl⟩
  go_wp2
  go_ret
  exact ⟨rfl, rfl⟩
theorem knows_any (h : Rac w Z n ρ X) (k : Nat) (hk : k < 65) (o t : Int) :
    Calls Try.prog 129 #[.pointer (some ⟨X.B, 0, none⟩), .int .i64 (k : Int), .int .i64 o, .int .i64 t] w fun e w' => e = .returned (.bool (decide (t ≤ atM (X.a.N k) o))) ∧ w = w' := by
  obtain ⟨A, zs, c, hV, hN, hl, hr⟩ := h.clock k hk
  have hc := (h.wk k hk).1
  rw [hV] at hc
  have HQ := Lib.hid (At_any A zs c o w hr (by omega))
  rw [atZ_atM, hN] at HQ
  have hk0 : (0 : Int) ≤ (k : Int) := by omega
  have hk1 : (k : Int) < 65 := by omega
  clear hr hN hV h
  generalize atM (X.a.N k) o = u at *
  go_enter Try.func129, Try.ntmps129
  go_wp2_with fail
  refine HQ.out.mono ?_
  rintro e w' ⟨rfl, rfl⟩
  go_wp2
  go_ret
  exact ⟨rfl, rfl⟩

/-- Does worker k not know the last write? -/
def hidW (a : AX) (k : Nat) (d : Int) : Bool := !decide (a.wt d ≤ atM (a.N k) (a.wr d))

set_option maxHeartbeats 4000000 in
theorem hiddenWriter_any (h : Rac w Z n ρ X) (k : Nat) (hk : k < 65) (d : Int) (hd : IsI d) {nb rb : Nat} (hp : X.dp d = some (nb, rb)) :
    Calls Try.prog 107 #[.pointer (some ⟨X.B, 0, none⟩), .int .i64 (k : Int), .pointer (some ⟨nb, 0, none⟩)] w fun e w' => e = .returned (.tuple #[.int .i64 (X.a.wr d), .bool (hidW X.a k d)]) ∧ Below w.heap.size w w' := by
  obtain ⟨nb', rb', h0, _, _, ⟨c0, _⟩, ⟨c1, _⟩, _, _⟩ : ∃ nb rb, X.dp d = some (nb, rb) ∧ ρ nb = (5, d) ∧ ρ rb = (6, d) ∧ (w.cell? ⟨nb, 0, none⟩ = some (.int .i64 (X.a.wr d)) ∧ w.frozen? ⟨nb, 0, none⟩ = false) ∧ (w.cell? ⟨nb, 1, none⟩ = some (.int .i64 (X.a.wt d)) ∧ w.frozen? ⟨nb, 1, none⟩ = false) ∧
    w.cell? ⟨nb, 2, none⟩ = some (.map (some rb)) ∧ MapV w rb n (.int .i64 0) (fun j => .int .i64 (X.a.rd d j)) := by
    rcases h.dt d hd with ⟨h0, _⟩ | h1
    · rw [h0] at hp; cases hp
    · exact h1
  rw [hp] at h0
  injection h0 with h0
  injection h0 with e1 e2
  subst e1 e2
  have HK : Hid (∀ W, Below w.heap.size w W → _) := Lib.hid (fun W (hb : Below w.heap.size w W) => knows_any (w := W) (h.later hb) k hk (X.a.wr d) (X.a.wt d))
  have hnl := World.block_lt_of_cell? w _ c0
  have HALL := Lib.hid (fun W (hb : Below w.heap.size w W) => (⟨hb, (hb.cell (p := ⟨nb, 0, none⟩) hnl).trans c0, (hb.cell (p := ⟨nb, 1, none⟩) hnl).trans c1⟩ : Below w.heap.size w W ∧ W.cell? ⟨nb, 0, none⟩ = some (.int .i64 (X.a.wr d)) ∧ W.cell? ⟨nb, 1, none⟩ = some (.int .i64 (X.a.wt d))))
  have HD : Hid (hidW X.a k d = !decide (X.a.wt d ≤ atM (X.a.N k) (X.a.wr d))) := rfl
  have hX0 := Below.refl w.heap.size w
  clear h hp hnl
  generalize X.a.wr d = u at *
  generalize X.a.wt d = t at *
  generalize decide (t ≤ atM (X.a.N k) u) = q at *
  go_enter Try.func107, Try.ntmps107
  go_upto_region 1 with (fail)
  go_region_held3 (fun W => Below w.heap.size w W ∧ W.cell? ⟨nb, 0, none⟩ = some (.int .i64 u) ∧ W.cell? ⟨nb, 1, none⟩ = some (.int .i64 t))
    (with_reducible first | assumption | exact HALL.out _ (by assumption) | exact HALL.out _ (Below.drew (by assumption)) | exact HALL.out _ (And.left (by assumption)) | exact HALL.out _ (Below.drew (And.left (by assumption))))
    (first | (go_at_call 129; (with_reducible refine Calls.mono (HK.out _ (And.left (by assumption))) ?_); rintro e W1 ⟨rfl, rfl⟩))
  all_goals
    go_wp2
    go_ret2
    rw [HD.out]
    exact ⟨rfl, And.left (by assumption)⟩

/-- The least worker with a read that worker k does not know. -/
def hidR (N : List Int) (f : Int → Int) : Int × Bool :=
  match (List.range 65).find? fun (j : Nat) => !decide (f (j : Int) ≤ N.getD j 0) with
  | some j => ((j : Int), true)
  | none => (0, false)
theorem hidR_found {N : List Int} {f : Int → Int} {j : Nat} (hj : j < 65) (h1 : ∀ i, i < j → f (i : Int) ≤ N.getD i 0) (h2 : ¬ f (j : Int) ≤ N.getD j 0) : hidR N f = ((j : Int), true) := by
  have : (List.range 65).find? (fun (j : Nat) => !decide (f (j : Int) ≤ N.getD j 0)) = some j := by
    rw [List.find?_range_eq_some]
    refine ⟨by simpa using h2, List.mem_range.2 hj, fun i hi => by simpa using h1 i hi⟩
  rw [hidR, this]
theorem hidR_none {N : List Int} {f : Int → Int} (h1 : ∀ i : Nat, i < 65 → f (i : Int) ≤ N.getD i 0) : hidR N f = (0, false) := by
  have : (List.range 65).find? (fun (j : Nat) => !decide (f (j : Int) ≤ N.getD j 0)) = none := by
    rw [List.find?_eq_none]
    intro i hi
    simpa using h1 i (List.mem_range.1 hi)
  rw [hidR, this]
theorem isI_small {x : Int} (h : 0 ≤ x ∧ x ≤ 100) : IsI x := by
  unfold IsI
  exact WalkArith.wf_i64 (by omega)

theorem Dat.some_of {w : World} {n : Nat} {ρ : Nat → Int × Int} {X : RX} {d : Int} {nb rb : Nat} (h : Dat w n ρ X d) (hp : X.dp d = some (nb, rb)) :
    ρ nb = (5, d) ∧ ρ rb = (6, d) ∧ (w.cell? ⟨nb, 0, none⟩ = some (.int .i64 (X.a.wr d)) ∧ w.frozen? ⟨nb, 0, none⟩ = false) ∧ (w.cell? ⟨nb, 1, none⟩ = some (.int .i64 (X.a.wt d)) ∧ w.frozen? ⟨nb, 1, none⟩ = false) ∧
      w.cell? ⟨nb, 2, none⟩ = some (.map (some rb)) ∧ MapV w rb n (.int .i64 0) (fun j => .int .i64 (X.a.rd d j)) := by
  rcases h with ⟨h0, _⟩ | ⟨nb', rb', h0, h1⟩
  · rw [h0] at hp; cases hp
  · rw [hp] at h0
    injection h0 with h0
    injection h0 with e1 e2
    subst e1 e2
    exact h1

set_option maxHeartbeats 4000000 in
theorem hiddenReader_any (h : Rac w Z n ρ X) (k : Nat) (hk : k < 65) (d : Int) (hd : IsI d) {nb rb : Nat} (hp : X.dp d = some (nb, rb)) :
    Calls Try.prog 108 #[.pointer (some ⟨X.B, 0, none⟩), .int .i64 (k : Int), .pointer (some ⟨nb, 0, none⟩)] w fun e w' => e = .returned (.tuple #[.int .i64 (hidR (X.a.N k) (X.a.rd d)).1, .bool (hidR (X.a.N k) (X.a.rd d)).2]) ∧ w = w' := by
  obtain ⟨_, _, _, _, c2, hm⟩ := (h.dt d hd).some_of hp
  have HK := Lib.hid (fun o t => knows_any h k hk o t)
  have HL : Hid (∀ j : Nat, j < 65 → (Instr.lookup 139 (.map (some rb)) (.int .i64 (j : Int)) false).run Try.prog w = .ok (.int .i64 (X.a.rd d j)) w) := Lib.hid fun j hj =>
    hm.look Try.underlying139 (zero_i64 w) (isI_small (by omega))
  have HF : Hid (∀ {j : Nat}, j < 65 → (∀ i : Nat, i < j → X.a.rd d i ≤ (X.a.N k).getD i 0) → ¬ X.a.rd d j ≤ (X.a.N k).getD j 0 → hidR (X.a.N k) (X.a.rd d) = ((j : Int), true)) := Lib.hid fun hj h1 h2 => hidR_found hj h1 h2
  have HN : Hid ((∀ i : Nat, i < 65 → X.a.rd d i ≤ (X.a.N k).getD i 0) → hidR (X.a.N k) (X.a.rd d) = (0, false)) := Lib.hid fun h1 => hidR_none h1
  clear h hm hp
  generalize hidR (X.a.N k) (X.a.rd d) = R at *
  generalize X.a.rd d = f at *
  generalize X.a.N k = N at *
  go_enter Try.func108, Try.ntmps108
  go_wp2
  go_loop [9] (fun i => ∃ j : Nat, j ≤ 65 ∧ i = .int .i64 j ∧ Hid (∀ i : Nat, i < j → f i ≤ N.getD i 0)) (fun i => 65 - (intOf i).toNat)
  case atStart => exact ⟨0, Nat.zero_le _, rfl, fun i hi => absurd hi (Nat.not_lt_zero i)⟩
  case round =>
    obtain ⟨j, hj, rfl, HP⟩ := hrel
    by_cases hlt : j < 65
    · have hlk := HL.out j hlt
      have HKN := Lib.hid (HK.out (j : Int) (f j))
      rw [atM_nat _ hlt] at HKN
      have hj1 : (j : Int) < 65 := by omega
      by_cases hq : f (j : Int) ≤ N.getD j 0
      · rw [decide_eq_true hq] at HKN
        have HP2 : Hid (∀ i : Nat, i < j + 1 → f i ≤ N.getD i 0) := Lib.hid fun i hi => by
          rcases Nat.lt_succ_iff_lt_or_eq.1 hi with h1 | rfl
          · exact HP.out i h1
          · exact hq
        generalize f (j : Int) = t at *
        clear hq HL HK HP
        go_wp2_with fail
        refine HKN.out.mono ?_
        rintro e w' ⟨rfl, rfl⟩
        go_wp2
        go_round
        case rel => exact ⟨j + 1, by omega, by go_num, HP2⟩
        case measure => simp [intOf]; omega
      · rw [decide_eq_false hq] at HKN
        have hR := HF.out hlt HP.out (by omega)
        have HR := Lib.hid hR
        generalize f (j : Int) = t at *
        clear hq HL HK hR
        go_wp2_with fail
        refine HKN.out.mono ?_
        rintro e w' ⟨rfl, rfl⟩
        go_wp2
        go_ret2
        rw [HR.out]
        exact ⟨rfl, rfl⟩
    · obtain rfl : j = 65 := by omega
      have HR := Lib.hid (HN.out HP.out)
      clear HL HK
      go_wp2
      go_ret2
      rw [HR.out]
      exact ⟨rfl, rfl⟩

/-- A place of data is noted from now on, if it was not. -/
def NotesOut (w : World) (Z : Nat → Prop) (n : Nat) (ρ : Nat → Int × Int) (X : RX) (d : Int) (e : Ending) (w' : World) : Prop :=
  ∃ ρ' X' nb rb, e = .returned (.pointer (some ⟨nb, 0, none⟩)) ∧ X'.dp d = some (nb, rb) ∧ Rac w' (fun b => Z b ∨ Owned ρ' b) (n + 1) ρ' X' ∧ X'.a = X.a ∧ X'.B = X.B ∧ Chg (Owned ρ) w w' ∧ (∀ b, Owned ρ' b → Owned ρ b ∨ w.heap.size ≤ b) ∧ ∀ d p, X.dp d = some p → X'.dp d = some p

/-- Which block is what, with two blocks more. -/
def rhoD (ρ : Nat → Int × Int) (s : Nat) (d : Int) (b : Nat) : Int × Int := if b = s then (6, d) else if b = s + 1 then (5, d) else ρ b
theorem rhoD_old {ρ : Nat → Int × Int} {s b : Nat} {d : Int} (h : b < s) : rhoD ρ s d b = ρ b := by
  rw [rhoD, if_neg (by omega), if_neg (by omega)]
theorem rhoD_own {ρ : Nat → Int × Int} {s b : Nat} {d : Int} (h : Owned (rhoD ρ s d) b) : Owned ρ b ∨ (s ≤ b ∧ b < s + 2) := by
  unfold Owned rhoD at h
  by_cases h1 : b = s
  · exact .inr (by omega)
  · rw [if_neg h1] at h
    by_cases h2 : b = s + 1
    · exact .inr (by omega)
    · rw [if_neg h2] at h
      exact .inl h
theorem Rac.noted {w W2 w3 : World} {Z : Nat → Prop} {n : Nat} {ρ : Nat → Int × Int} {X : RX} (h : Rac w Z n ρ X) (d : Int) (hd : IsI d) (hn : X.dp d = none) (t : TypeId)
    (hW2 : (w.alloc (.map #[] 0)).alloc (.cells #[.int .i64 0, .int .i64 0, .map (some w.heap.size)] t) = W2)
    (hb : Chg (fun b => b = X.bd) W2 w3) (hm : MapV w3 X.bd (n + 1) nilP (putV (fun k => ptrD (X.dp k)) d (.pointer (some ⟨w.heap.size + 1, 0, none⟩)))) :
    Rac w3 (fun b => Z b ∨ Owned (rhoD ρ w.heap.size d) b) (n + 1) (rhoD ρ w.heap.size d) { X with dp := updI X.dp d (some (w.heap.size + 1, w.heap.size)) } := by
  have hs2 : W2.heap.size = w.heap.size + 2 := by rw [← hW2]; simp
  have hbw : Below w.heap.size w W2 := by
    rw [← hW2]
    exact ((Below.refl _ w).alloc (Nat.le_refl _) _).alloc (by simp) _
  have hm0 : MapV W2 w.heap.size 0 (.int .i64 0) (fun _ => .int .i64 0) := by
    rw [← hW2]
    exact (MapV.made w _).same (Below.heap_alloc _ _ _ (by simp))
  have hh : W2.heap[w.heap.size + 1]? = some (.cells #[.int .i64 0, .int .i64 0, .map (some w.heap.size)] t (0, 0)) := by
    rw [← hW2]
    have := heap_alloc_last (w.alloc (.map #[] 0)) (.cells #[.int .i64 0, .int .i64 0, .map (some w.heap.size)] t (0, 0))
    rwa [World.size_alloc] at this
  have hcell : ∀ o, W2.cell? ⟨w.heap.size + 1, o, none⟩ = (#[.int .i64 0, .int .i64 0, .map (some w.heap.size)] : Array Value)[o]? := fun o => cell_of_row _ _ o _ t (0, 0) hh
  have hfro : ∀ o, W2.frozen? ⟨w.heap.size + 1, o, none⟩ = false := fun o => by simp only [World.frozen?]; rw [hh]; simp
  have hdl : X.bd < w.heap.size := (h.own X.bd (by rw [h.rd]; decide)).1
  have hBl : X.B < w.heap.size := (h.own X.B (by rw [h.rB]; decide)).1
  have hpl : X.bp < w.heap.size := (h.own X.bp (by rw [h.rp]; decide)).1
  have hc : Chg (fun b => b = X.bd) w w3 := (Chg.of_below hbw).trans hb (fun _ e => .inl e)
  have hsz := hc.size
  have hsz2 := hb.size
  have hoD : (ρ X.bd).1 ≠ 0 := by rw [h.rd]; decide
  have hMZ : ∀ b, b = X.bd → Z b ∨ w.heap.size ≤ b := fun b e => .inl (e ▸ (h.own X.bd hoD).2)
  have hZ' : ∀ b, (Z b ∨ Owned (rhoD ρ w.heap.size d) b) → Z b ∨ w.heap.size ≤ b := fun b e => by
    rcases e with e | e
    · exact .inl e
    · rcases rhoD_own e with e | e
      · exact .inl (h.own b e).2
      · exact .inr e.1
  have q : ∀ b, (ρ b).1 ≠ 0 → (ρ b).1 ≠ 3 → w3.heap[b]? = w.heap[b]? := fun b h0 h3 => hc.block b (h.own b h0).1 (fun e => h3 (by rw [e]; show (ρ X.bd).1 = 3; rw [h.rd]))
  have qB : w3.heap[X.B]? = w.heap[X.B]? := q X.B (by rw [h.rB]; decide) (by rw [h.rB]; decide)
  have cB : ∀ o, w3.cell? ⟨X.B, o, none⟩ = w.cell? ⟨X.B, o, none⟩ := fun o => World.cell?_of_block (w := w) qB
  have fB : ∀ o, w3.frozen? ⟨X.B, o, none⟩ = w.frozen? ⟨X.B, o, none⟩ := fun o => World.frozen?_of_block (w := w) qB
  have hN : w3.heap[w.heap.size + 1]? = W2.heap[w.heap.size + 1]? := hb.block _ (by omega) (by omega)
  have cN : ∀ o, w3.cell? ⟨w.heap.size + 1, o, none⟩ = W2.cell? ⟨w.heap.size + 1, o, none⟩ := fun o => World.cell?_of_block (w := W2) hN
  have fN : ∀ o, w3.frozen? ⟨w.heap.size + 1, o, none⟩ = W2.frozen? ⟨w.heap.size + 1, o, none⟩ := fun o => World.frozen?_of_block (w := W2) hN
  refine {
    own := fun b hbo => ⟨?_, .inr hbo⟩, zlt := fun b hz => ?_, rB := (rhoD_old hBl).trans h.rB, rp := (rhoD_old hpl).trans h.rp, rd := (rhoD_old hdl).trans h.rd,
    wk := fun j hj => ⟨(cB j).trans (h.wk j hj).1, (fB j).trans (h.wk j hj).2⟩, ck := fun j hj => (h.ck j hj).chg hc hMZ hZ',
    c65 := (cB 65).trans h.c65, c66 := (cB 66).trans h.c66, c67 := ⟨(cB 67).trans h.c67.1, (fB 67).trans h.c67.2⟩,
    pm := (h.pm.same (q _ (by rw [h.rp]; decide) (by rw [h.rp]; decide))).mono (Nat.le_succ n), pk := fun j hj => (h.pk j hj).chg hc hMZ hZ', dm := ?_,
    dt := fun j hj => ?_,
    cr := ownsRow_same h.cr (fun g hg => q g (by rw [h.co g hg]; decide) (by rw [h.co g hg]; decide)), co := fun g hg => ?_, cn := Nat.le_succ_of_le h.cn }
  · rcases rhoD_own hbo with e | e
    · exact Nat.lt_of_lt_of_le (h.own b e).1 hsz
    · omega
  · rcases hz with e | e
    · exact Nat.lt_of_lt_of_le (h.zlt b e) hsz
    · rcases rhoD_own e with e | e
      · exact Nat.lt_of_lt_of_le (h.own b e).1 hsz
      · omega
  · have he : (fun k => ptrD (updI X.dp d (some (w.heap.size + 1, w.heap.size)) k)) = putV (fun k => ptrD (X.dp k)) d (.pointer (some ⟨w.heap.size + 1, 0, none⟩)) := by
      funext k
      unfold updI putV
      by_cases e : k = d
      · rw [if_pos e, if_pos e]; rfl
      · rw [if_neg e, if_neg e]
    show MapV w3 X.bd (n + 1) nilP (fun k => ptrD (updI X.dp d (some (w.heap.size + 1, w.heap.size)) k))
    rw [he]
    exact hm
  · by_cases e : j = d
    · subst e
      rcases h.dt j hd with ⟨_, e1, e2, e3⟩ | ⟨nb, rb, e1, _⟩
      · refine .inr ⟨w.heap.size + 1, w.heap.size, ?_, ?_, ?_, ⟨?_, ?_⟩, ⟨?_, ?_⟩, ?_, ?_⟩
        · show updI X.dp j _ j = _
          unfold updI
          rw [if_pos rfl]
        · rw [rhoD, if_neg (by omega), if_pos rfl]
        · rw [rhoD, if_pos rfl]
        · show _ = some (Value.int .i64 (X.a.wr j))
          rw [e1]
          exact (cN 0).trans (hcell 0)
        · exact (fN 0).trans (hfro 0)
        · show _ = some (Value.int .i64 (X.a.wt j))
          rw [e2]
          exact (cN 1).trans (hcell 1)
        · exact (fN 1).trans (hfro 1)
        · exact (cN 2).trans (hcell 2)
        · show MapV w3 w.heap.size (n + 1) (.int .i64 0) (fun i => .int .i64 (X.a.rd j i))
          have : (fun i => Value.int .i64 (X.a.rd j i)) = fun _ => .int .i64 0 := by
            funext i
            rw [e3 i]
          rw [this]
          exact (hm0.same (hb.block _ (by omega) (by omega))).mono (Nat.zero_le _)
      · rw [hn] at e1; cases e1
    · refine (h.dt j hj).same (Nat.le_succ n) (fun b eb => ?_) ?_ rfl rfl rfl
      · have h0 : (ρ b).1 ≠ 0 := by rcases eb with eb | eb <;> rw [eb] <;> simp
        have h3 : (ρ b).1 ≠ 3 := by rcases eb with eb | eb <;> rw [eb] <;> simp
        exact ⟨q b h0 h3, rhoD_old (h.own b h0).1⟩
      · show updI X.dp d _ j = X.dp j
        unfold updI
        rw [if_neg e]
  · have h4 := h.co g hg
    rw [rhoD_old (h.own g (by rw [h4]; decide)).1]
    exact h4

set_option maxRecDepth 100000 in
set_option maxHeartbeats 4000000 in
theorem notesOf_any (h : Rac w Z n ρ X) (hn : n < 100000) (d : Int) (hd : IsI d) :
    Calls Try.prog 106 #[.pointer (some ⟨X.B, 0, none⟩), .int .i64 d] w (NotesOut w Z n ρ X d) := by
  have hmm := @run_makeMap Try.prog
  have c66 := h.c66
  have hBl : X.B < w.heap.size := (h.own X.B (by rw [h.rB]; decide)).1
  cases hp : X.dp d with
  | some p =>
    obtain ⟨nb, rb⟩ := p
    have hlk := h.dm.look Try.underlying122 (zero_notes w) hd
    simp only [hp, ptrD] at hlk
    have HO : Hid (NotesOut w Z n ρ X d (.returned (.pointer (some ⟨nb, 0, none⟩))) w) := Lib.hid ⟨ρ, X, nb, rb, rfl, hp,
      (h.more (Nat.le_succ n)).chg (M := fun _ => False) Chg.refl (fun _ e => e.elim) (fun _ e => e.elim) (fun _ e => .inr e) (fun b e => e.elim .inl (fun e => .inl (h.own b e).2)) (fun b e => e.elim (h.zlt b) (fun e => (h.own b e).1)), rfl, rfl, Chg.refl, fun b e => .inl e, fun _ _ e => e⟩
    clear h hp
    go_enter Try.func106, Try.ntmps106
    go_wp2
    go_ret
    exact HO.out
  | none =>
    have hlk := h.dm.look Try.underlying122 (zero_notes w) hd
    simp only [hp, ptrD] at hlk
    obtain ⟨W2, hW2⟩ : ∃ W2, (w.alloc (.map #[] 0)).alloc (.cells #[.int .i64 0, .int .i64 0, .map (some w.heap.size)] 173) = W2 := ⟨_, rfl⟩
    have hbw : Below w.heap.size w W2 := by
      rw [← hW2]
      exact ((Below.refl _ w).alloc (Nat.le_refl _) _).alloc (by simp) _
    obtain ⟨w3, hup, hm3, ht3⟩ := (h.dm.same (hbw.block _ h.dm.lt)).put Try.underlying122 (by unfold maxLen; omega) hd (.pointer (some ⟨w.heap.size + 1, 0, none⟩))
    have hc3 : Chg (fun b => b = X.bd) W2 w3 := Chg.refl.turned rfl ht3
    have hR := h.noted d hd hp _ hW2 hc3 hm3
    have hcw : Chg (Owned ρ) w w3 := (Chg.of_below hbw).trans hc3 (fun b e => .inl (by rw [e]; show (ρ X.bd).1 ≠ 0; rw [h.rd]; decide))
    have hlk3 := hR.dm.look Try.underlying122 (zero_notes w3) hd
    have hp3 : updI X.dp d (some (w.heap.size + 1, w.heap.size)) d = some (w.heap.size + 1, w.heap.size) := if_pos rfl
    simp only [hp3, ptrD] at hlk3
    have c66b := hR.c66
    have c66' : w3.cell? ⟨X.B, 66, none⟩ = some (.map (some X.bd)) := c66b
    have c662 : W2.cell? ⟨X.B, 66, none⟩ = some (.map (some X.bd)) := (hbw.cell (p := ⟨X.B, 66, none⟩) hBl).trans c66
    have HO : Hid (NotesOut w Z n ρ X d (.returned (.pointer (some ⟨w.heap.size + 1, 0, none⟩))) w3) := Lib.hid ⟨_, _, _, _, rfl, hp3, hR, rfl, rfl, hcw, fun b e => (rhoD_own e).imp id (fun e => e.1), fun d' p e => by
      show updI X.dp d _ d' = some p
      unfold updI
      by_cases e2 : d' = d
      · rw [e2, hp] at e; cases e
      · rw [if_neg e2]; exact e⟩
    rw [← hW2] at hup c662
    clear h hR hp hp3 hcw hc3 ht3 hm3 hbw hW2 c66b
    go_enter Try.func106, Try.ntmps106
    go_wp2
    go_ret
    exact HO.out

end

end Go.Proofs.Ytdgmcaehadigaaa
