/- A round of RaceJust begins: its deed has a block, its row another. -/
import Derived.Test.YtabcnmpnjnegdaaJustRows
namespace Go.Proofs.Ytabcnmpnjnegdaa
open Go.RowKit

theorem bool_not {f t : Bool} (h : t = true ↔ ¬ f = true) : t = !f := by cases f <;> cases t <;> simp_all
theorem info_bool : (Try.prog.info? 4).map (fun i => (i.zero, i.size, i.bytes)) = some (some (.bool false), 1, 1) := by kernel_rfl
theorem info_bools : (Try.prog.info? 52).map (fun i => (i.zero, i.size, i.bytes)) = some (some (.slice none 0 0), 1, 24) := by kernel_rfl
theorem New_w3 (w : World) : Calls Try.prog 23 #[] w fun e w' => ∃ B, e = .returned (.pointer (some ⟨B, 0, none⟩)) ∧ W3 w 0 B newA (fun _ => False) w' :=
  (New_any w (fun _ => False) (fun _ e => e.elim)).mono fun e w' h => by
    obtain ⟨ρ, X, he, hR, ha, hb, ho⟩ := h
    exact ⟨X.B, he, _, ρ, X, hR, rfl, ha, hb, ho, fun p hp => hp.elim⟩
theorem DdD.more {w : World} {B C : Nat} {A : Option Addr} {ds : List D3} (h : DdD w B A ds) (hb : B ≤ C) : DdD w C A ds := fun k d hd => by
  obtain ⟨b, off, hA, hlt, r⟩ := h k d hd
  exact ⟨b, off, hA, Nat.lt_of_lt_of_le hlt hb, r⟩
/-- All that the law has in memory ahead of round i. -/
structure Out (w0 : World) (l : List D3) (B b0 : Nat) (rb : Nat → Nat) (n i : Nat) (w : World) : Prop where
  w3 : W3 w0 n B (stA l i) (fun b => b = b0 ∨ ∃ j, j < i ∧ b = rb j) w
  mx : Mx w b0 rb l.length i fun j k => dB (Bef l j k)
theorem made_cells {w : World} {B m b c : Nat} {e : TypeId} {z : Value} (hz : z.cells = #[z]) (h : w.ownsRow B e 1 (.slice (some ⟨b, 0, none⟩) m c) m (madeCells z.cells (m * 1)).toList) : ∀ k, k < m → w.cell? ⟨b, k, none⟩ = some z ∧ w.frozen? ⟨b, k, none⟩ = false := by
  intro k hk
  have h2 : w.ownsRow B e 1 (.slice (some ⟨b, 0, none⟩) m c) m (List.replicate m z) := by
    rw [hz] at h
    simpa [toList_madeCells_one] using h
  refine ⟨?_, h2.frozenAt k⟩
  rw [h2.cellAt k (by omega), List.getElem?_replicate, if_pos hk]
/-- A deed in a block that is new. -/
abbrev wD (w : World) (d : D3) : World := w.alloc (.cells #[.int .i64 d.1.1, .int .i64 d.1.2, .int .i64 d.2] 41)
theorem wD_cell (w : World) (d : D3) : (wD w d).cell? ⟨w.heap.size, 0, none⟩ = some (.int .i64 d.1.1) ∧ (wD w d).cell? ⟨w.heap.size, 1, none⟩ = some (.int .i64 d.1.2) ∧ (wD w d).cell? ⟨w.heap.size, 2, none⟩ = some (.int .i64 d.2) := by
  have h : (wD w d).heap[w.heap.size]? = some (.cells #[.int .i64 d.1.1, .int .i64 d.1.2, .int .i64 d.2] 41 (0, 0)) := heap_alloc_last w _
  exact ⟨cell_of_row _ _ 0 _ _ (0, 0) h, cell_of_row _ _ 1 _ _ (0, 0) h, cell_of_row _ _ 2 _ _ (0, 0) h⟩
section
variable {w0 w w4 : World} {l : List D3} {B Bs b0 db n i c : Nat} {rb : Nat → Nat} {g : Nat → Bool} {e : TypeId}
theorem Out.enter (h : Out w0 l B b0 rb n i w) (hi : i < l.length) {d : D3} (hd : l[i]? = some d)
    (hown : w4.ownsRow Bs e 1 (.slice (some ⟨(wD w d).heap.size, 0, none⟩) l.length c) l.length (madeCells (Value.bool false).cells (l.length * 1)).toList) (hgr : (wD w d).grownBy w4 none) :
    (∃ u, w4.cell? ⟨b0, i, none⟩ = some u) ∧ w4.frozen? ⟨b0, i, none⟩ = false ∧
      In w0 l B b0 w.heap.size (fun j => if j = i then w.heap.size + 1 else rb j) n i (stA l i) (fun _ => false) (w4.setCell ⟨b0, i, none⟩ (.slice (some ⟨w.heap.size + 1, 0, none⟩) l.length l.length)) := by
  have hba : Below w.heap.size w (wD w d) := below_new w _
  have hb4 : Below (wD w d).heap.size (wD w d) w4 := (Below.refl _ _).grown hgr (Nat.le_refl _) (fun _ h => by cases h)
  have hb : Below w.heap.size w w4 := Below.next hba hb4
  have hz : (wD w d).heap.size = w.heap.size + 1 := by simp
  rw [hz] at hown
  have hlt4 := own_lt hown
  have hcs := made_cells rfl hown
  have h0 : b0 < w.heap.size := h.w3.lt (.inl rfl)
  have hr : ∀ j, j < i → rb j < w.heap.size := fun j hj => h.w3.lt (.inr ⟨j, hj, rfl⟩)
  have hmx := h.mx.keep (hb.block b0 h0) (fun j hj => hb.block _ (hr j hj))
  have hne : ∀ o, Addr.mk b0 i none ≠ Addr.mk w.heap.size o none := fun o e => by have := (Addr.mk.inj e).1; omega
  obtain ⟨c0, c1, c2⟩ := wD_cell w d
  obtain ⟨u, hu⟩ := Option.isSome_iff_exists.1 (hmx.th i hi).1
  refine ⟨⟨u, hu⟩, (hmx.th i hi).2, (W3.add (J' := fun b => b = b0 ∨ b = w.heap.size ∨ ∃ j, j < i + 1 ∧ b = (if j = i then w.heap.size + 1 else rb j)) h.w3 hb fun b hb' => ?_).set (.inl rfl) _,
    hmx.more hi (by omega) (fun j hj => by have := hr j hj; omega) hcs, ?_, ?_, ?_, by omega, fun j hj => ?_⟩
  · rcases hb' with e | e | ⟨j, hj, e⟩
    · exact .inl (.inl e)
    · exact .inr ⟨by omega, by omega⟩
    · by_cases hji : j = i
      · rw [if_pos hji] at e
        exact .inr ⟨by omega, by omega⟩
      · rw [if_neg hji] at e
        exact .inl (.inr ⟨j, by omega, e⟩)
  · rw [World.cell?_setCell_other _ _ _ _ (hne 0), hb4.cell (p := ⟨w.heap.size, 0, none⟩) (by rw [hz]; exact Nat.lt_succ_self _), c0, kd_of hd]
  · rw [World.cell?_setCell_other _ _ _ _ (hne 1), hb4.cell (p := ⟨w.heap.size, 1, none⟩) (by rw [hz]; exact Nat.lt_succ_self _), c1, wkr_of hd]
  · rw [World.cell?_setCell_other _ _ _ _ (hne 2), hb4.cell (p := ⟨w.heap.size, 2, none⟩) (by rw [hz]; exact Nat.lt_succ_self _), c2, plc_of hd]
  · show (if j = i then w.heap.size + 1 else rb j) ≠ w.heap.size
    by_cases hji : j = i
    · rw [if_pos hji]; omega
    · rw [if_neg hji]
      have := hr j (by omega)
      omega
/-- The round ends: the row tells what is before. -/
theorem In.leave {w' : World} {db : Nat} (h : In w0 l B b0 db rb n i (stA l (i + 1)) (fun k => dB (Bef l i k)) w') : Out w0 l B b0 rb n (i + 1) w' :=
  ⟨h.w3.less fun b hb => hb.imp id .inr, h.mx.congr fun j _ k _ => by
    unfold rowsOf
    by_cases e : j = i
    · rw [if_pos e, e]
    · rw [if_neg e]⟩
theorem In.do_ (h : In w0 l B b0 db rb n i (stA l i) g w) (hn : n < 90000) {d : D3} (hd : l[i]? = some d) (hp : IsI d.2) :
    Calls Try.prog 29 #[.pointer (some ⟨B, 0, none⟩), D3V d] w fun e w' => e = .returned (.bool (okA l i)) ∧ In w0 l B b0 db rb (n + 3) i (stA l (i + 1)) g w' := by
  have hg : l.getD i ((-1, -1), 0) = d := by rw [List.getD_eq_getElem?_getD, hd]; rfl
  have e1 : okA l i = (doA (stA l i) d).2 := by rw [okA, hg]
  have e2 : stA l (i + 1) = (doA (stA l i) d).1 := by show (doA (stA l i) (l.getD i ((-1, -1), 0))).1 = _; rw [hg]
  rw [e1, e2]
  exact (do_w3 h.w3 hn d hp).mono fun e w' ⟨he, hw, hk⟩ => ⟨he, h.keepJ hw hk⟩
end

theorem sto_iff {l : List D3} {k : Nat} {x : D3} {p : Int} (hx : l[k]? = some x) : Sto l p k ↔ (0 ≤ x.1.2 ∧ x.1.2 ≤ 64) ∧ (x.1.1 = 1 ∨ x.1.1 = 2) ∧ x.2 = p := by
  unfold Sto
  rw [val_iff, wkr_of hx, kd_of hx, plc_of hx]
  exact and_congr_left fun _ => ⟨fun h => of_decide_eq_true (show decide (0 ≤ x.1.2 ∧ x.1.2 ≤ 64) = true from h), fun h => decide_eq_true h⟩
theorem conf_iff {l : List D3} {i k : Nat} {x d : D3} (hx : l[k]? = some x) (hd : l[i]? = some d) (hki : k < i) (hv : Val l i) : Conf l i k ↔ (0 ≤ x.1.2 ∧ x.1.2 ≤ 64) ∧ x.2 = d.2 ∧ ((d.1.1 = 3 ∨ d.1.1 = 4) ∧ (x.1.1 = 3 ∨ x.1.1 = 4) ∧ (d.1.1 = 4 ∨ x.1.1 = 4)) := by
  unfold Conf
  rw [val_iff l k, wkr_of hx, kd_of hx, plc_of hx, kd_of hd, plc_of hd]
  exact ⟨fun h => ⟨of_decide_eq_true (show decide (0 ≤ x.1.2 ∧ x.1.2 ≤ 64) = true from h.2.2.1), h.2.2.2⟩, fun h => ⟨hki, hv, decide_eq_true h.1, h.2⟩⟩

end Go.Proofs.Ytabcnmpnjnegdaa
