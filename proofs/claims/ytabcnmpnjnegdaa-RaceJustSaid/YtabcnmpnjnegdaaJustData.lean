/- What a watch notes of data, and when it tells a clash: just if two accesses, one of them a write, are ordered by nothing. -/
import Derived.Test.YtabcnmpnjnegdaaJustInv
namespace Go.Proofs.Ytabcnmpnjnegdaa

variable {l : List D3}
/-- A write of d. -/
def Wri (l : List D3) (d : Int) (k : Nat) : Prop := Val l k ∧ kd l k = 4 ∧ plc l k = d
def LastW (l : List D3) (d : Int) (i k : Nat) : Prop := k < i ∧ Wri l d k ∧ ∀ j, k < j → j < i → ¬ Wri l d j
/-- A read of d by v, behind the last write of the first i. -/
def RdOf (l : List D3) (d : Int) (v i k : Nat) : Prop := k < i ∧ Val l k ∧ kd l k = 3 ∧ plc l k = d ∧ wkn l k = v ∧ ∀ j, k < j → j < i → ¬ Wri l d j
structure Dnv (l : List D3) (i : Nat) (a : AX) : Prop where
  w : ∀ d, ((∀ k, k < i → ¬ Wri l d k) ∧ a.wt d = 0) ∨ ∃ k, LastW l d i k ∧ a.wr d = wkr l k ∧ a.wt d = tmA l k
  r : ∀ d v, v < 65 → ((∀ k, ¬ RdOf l d v i k) ∧ a.rd d v = 0) ∨ ∃ k, RdOf l d v i k ∧ (∀ j, RdOf l d v i j → j ≤ k) ∧ a.rd d v = tmA l k
theorem Dnv.zero : Dnv l 0 newA := ⟨fun _ => .inl ⟨fun k h => absurd h (Nat.not_lt_zero k), rfl⟩, fun _ _ _ => .inl ⟨fun k h => absurd h.1 (Nat.not_lt_zero k), rfl⟩⟩
theorem lastW_old {d : Int} {i k : Nat} (h : ¬ Wri l d i) (hk : LastW l d i k) : LastW l d (i + 1) k :=
  ⟨Nat.lt_succ_of_lt hk.1, hk.2.1, fun j a b => by
    rcases Nat.lt_succ_iff_lt_or_eq.1 b with b | rfl
    · exact hk.2.2 j a b
    · exact h⟩
theorem rdOf_old {d : Int} {v i k : Nat} (h : ¬ Wri l d i) (hk : RdOf l d v i k) : RdOf l d v (i + 1) k :=
  ⟨Nat.lt_succ_of_lt hk.1, hk.2.1, hk.2.2.1, hk.2.2.2.1, hk.2.2.2.2.1, fun j a b => by
    rcases Nat.lt_succ_iff_lt_or_eq.1 b with b | rfl
    · exact hk.2.2.2.2.2 j a b
    · exact h⟩
theorem rdOf_back {d : Int} {v i k : Nat} (hk : RdOf l d v (i + 1) k) (hne : k ≠ i) : RdOf l d v i k := by
  obtain ⟨h1, h2, h3, h4, h5, h6⟩ := hk
  exact ⟨by omega, h2, h3, h4, h5, fun j a b => h6 j a (by omega)⟩
/-- Nothing of a place of data has turned. -/
theorem Dnv.keepW {i : Nat} {a : AX} {d : Int} (h : ((∀ k, k < i → ¬ Wri l d k) ∧ a.wt d = 0) ∨ ∃ k, LastW l d i k ∧ a.wr d = wkr l k ∧ a.wt d = tmA l k) (hn : ¬ Wri l d i) :
    ((∀ k, k < i + 1 → ¬ Wri l d k) ∧ a.wt d = 0) ∨ ∃ k, LastW l d (i + 1) k ∧ a.wr d = wkr l k ∧ a.wt d = tmA l k := by
  rcases h with ⟨h1, h2⟩ | ⟨k, h1, h2⟩
  · exact .inl ⟨fun k hk => by
      rcases Nat.lt_succ_iff_lt_or_eq.1 hk with hk | rfl
      · exact h1 k hk
      · exact hn, h2⟩
  · exact .inr ⟨k, lastW_old hn h1, h2⟩
theorem Dnv.keepR {i v : Nat} {a : AX} {d : Int} (h : ((∀ k, ¬ RdOf l d v i k) ∧ a.rd d v = 0) ∨ ∃ k, RdOf l d v i k ∧ (∀ j, RdOf l d v i j → j ≤ k) ∧ a.rd d v = tmA l k) (hn : ¬ Wri l d i) (hr : ¬ (Val l i ∧ kd l i = 3 ∧ plc l i = d ∧ wkn l i = v)) :
    ((∀ k, ¬ RdOf l d v (i + 1) k) ∧ a.rd d v = 0) ∨ ∃ k, RdOf l d v (i + 1) k ∧ (∀ j, RdOf l d v (i + 1) j → j ≤ k) ∧ a.rd d v = tmA l k := by
  have hne : ∀ j, RdOf l d v (i + 1) j → j ≠ i := fun j hj e => by
    subst e
    exact hr ⟨hj.2.1, hj.2.2.1, hj.2.2.2.1, hj.2.2.2.2.1⟩
  rcases h with ⟨h1, h2⟩ | ⟨k, h1, h2, h3⟩
  · exact .inl ⟨fun k hk => h1 k (rdOf_back hk (hne k hk)), h2⟩
  · exact .inr ⟨k, rdOf_old hn h1, fun j hj => h2 j (rdOf_back hj (hne j hj)), h3⟩
theorem Dnv.other {i : Nat} {a a' : AX} (h : Dnv l i a) (hk : Val l i → kd l i ≠ 3 ∧ kd l i ≠ 4) (e1 : a'.wr = a.wr) (e2 : a'.wt = a.wt) (e3 : a'.rd = a.rd) : Dnv l (i + 1) a' := by
  have hn : ∀ d, ¬ Wri l d i := fun d e => (hk e.1).2 e.2.1
  exact ⟨fun d => by rw [e1, e2]; exact Dnv.keepW (h.w d) (hn d), fun d v hv => by rw [e3]; exact Dnv.keepR (h.r d v hv) (hn d) (fun e => (hk e.1).1 e.2.1)⟩
theorem Dnv.read {i : Nat} {a a' : AX} (h : Dnv l i a) (hv : Val l i) (hk : kd l i = 3) (ht : tmA l i = (a.N (wkn l i)).getD (wkn l i) 0) (e1 : a'.wr = a.wr) (e2 : a'.wt = a.wt)
    (e3 : a'.rd = updI a.rd (plc l i) (updI (a.rd (plc l i)) (wkn l i) ((a.N (wkn l i)).getD (wkn l i) 0))) : Dnv l (i + 1) a' := by
  have hn : ∀ d, ¬ Wri l d i := fun d e => by have := e.2.1; rw [hk] at this; exact absurd this (by decide)
  refine ⟨fun d => by rw [e1, e2]; exact Dnv.keepW (h.w d) (hn d), fun d v hv65 => ?_⟩
  by_cases e : plc l i = d ∧ wkn l i = v
  · refine .inr ⟨i, ⟨Nat.lt_succ_self _, hv, hk, e.1, e.2, fun j a b => by omega⟩, fun j hj => by have := hj.1; omega, ?_⟩
    rw [e3, ht, e.1, e.2, updI, if_pos rfl, updI, if_pos rfl]
  · have he : a'.rd d v = a.rd d v := by
      rw [e3]
      unfold updI
      by_cases e4 : d = plc l i
      · rw [if_pos e4, if_neg (fun e5 => e ⟨e4.symm, by omega⟩), e4]
      · rw [if_neg e4]
    rw [he]
    exact Dnv.keepR (h.r d v hv65) (hn d) (fun e5 => e ⟨e5.2.2.1, e5.2.2.2⟩)
theorem Dnv.write {i : Nat} {a a' : AX} (h : Dnv l i a) (hv : Val l i) (hk : kd l i = 4) (ht : tmA l i = (a.N (wkn l i)).getD (wkn l i) 0) (e1 : a'.wr = updI a.wr (plc l i) (wkr l i)) (e2 : a'.wt = updI a.wt (plc l i) ((a.N (wkn l i)).getD (wkn l i) 0))
    (e3 : a'.rd = updI a.rd (plc l i) (fun _ => 0)) : Dnv l (i + 1) a' := by
  refine ⟨fun d => ?_, fun d v hv65 => ?_⟩
  · by_cases e : d = plc l i
    · refine .inr ⟨i, ⟨Nat.lt_succ_self _, ⟨hv, hk, e.symm⟩, fun j a b => by omega⟩, ?_, ?_⟩
      · rw [e1, updI, if_pos e]
      · rw [e2, updI, if_pos e, ht]
    · have hn : ¬ Wri l d i := fun e4 => e e4.2.2.symm
      rw [e1, e2, updI, if_neg e, updI, if_neg e]
      exact Dnv.keepW (h.w d) hn
  · by_cases e : d = plc l i
    · refine .inl ⟨fun k hk2 => ?_, ?_⟩
      · rcases Nat.lt_succ_iff_lt_or_eq.1 hk2.1 with h1 | rfl
        · exact hk2.2.2.2.2.2 i h1 (Nat.lt_succ_self i) ⟨hv, hk, e.symm⟩
        · have := hk2.2.2.1
          rw [hk] at this
          exact absurd this (by decide)
      · rw [e3, updI, if_pos e]
    · have hn : ¬ Wri l d i := fun e4 => e e4.2.2.symm
      have he : a'.rd d v = a.rd d v := by rw [e3, updI, if_neg e]
      rw [he]
      exact Dnv.keepR (h.r d v hv65) hn (fun e5 => e e5.2.2.1.symm)
theorem dnv_all : ∀ i, i ≤ l.length → Dnv l i (stA l i)
  | 0, _ => Dnv.zero
  | i + 1, hi => by
    have ih := dnv_all i (by omega)
    have hd : l[i]? = some (l[i]'(by omega)) := List.getElem?_eq_getElem (by omega)
    generalize l[i]'(by omega) = d at hd
    have ht : tmA l i = ((stA l i).N (wkn l i)).getD (wkn l i) 0 := rfl
    show Dnv l (i + 1) (doA (stA l i) (l.getD i ((-1, -1), 0))).1
    rw [get_kd hd]
    cases hW : isW d.1.2
    · rw [doA_not hW]
      exact ih.other (fun e => by rw [val_iff, wkr_of hd, hW] at e; cases e) rfl rfl rfl
    · have hv : Val l i := ⟨d, hd, hW⟩
      have hwk : d.1.2.toNat = wkn l i := by rw [wkn, wkr_of hd]
      have hp : d.2 = plc l i := (plc_of hd).symm
      have hk := kd_of hd
      rw [doA_at hW, hwk, hp, ← hk]
      by_cases k0 : kd l i = 0
      · rw [if_pos k0]
        exact ih.other (fun _ => by rw [k0]; decide) rfl rfl rfl
      rw [if_neg k0]
      by_cases k1 : kd l i = 1
      · rw [if_pos k1]
        exact ih.other (fun _ => by rw [k1]; decide) rfl rfl rfl
      rw [if_neg k1]
      by_cases k2 : kd l i = 2
      · rw [if_pos k2]
        exact ih.other (fun _ => by rw [k2]; decide) rfl rfl rfl
      rw [if_neg k2]
      by_cases k3 : kd l i = 3
      · rw [if_pos k3]
        exact ih.read hv k3 ht rfl rfl rfl
      rw [if_neg k3]
      by_cases k4 : kd l i = 4
      · rw [if_pos k4]
        refine ih.write hv k4 ht ?_ rfl rfl
        show updI (stA l i).wr (plc l i) (wkn l i) = _
        rw [hv.wk.1]
      rw [if_neg k4]
      exact ih.other (fun _ => ⟨k3, k4⟩) rfl rfl rfl

/-- Two accesses of one place of data, one of them a write. -/
def Conf (l : List D3) (i k : Nat) : Prop := k < i ∧ Val l i ∧ Val l k ∧ plc l k = plc l i ∧ (kd l i = 3 ∨ kd l i = 4) ∧ (kd l k = 3 ∨ kd l k = 4) ∧ (kd l i = 4 ∨ kd l k = 4)
/-- Does deed i not clash? -/
def okA (l : List D3) (i : Nat) : Bool := (doA (stA l i) (l.getD i ((-1, -1), 0))).2
theorem ok_at {i : Nat} (hi : i < l.length) (hv : Val l i) : okA l i = (if kd l i = 3 then !hidW (stA l i) (wkn l i) (plc l i) else if kd l i = 4 then (clashW (stA l i) (wkn l i) (plc l i)).isNone else true) := by
  have hd : l[i]? = some (l[i]'hi) := List.getElem?_eq_getElem hi
  generalize l[i]'hi = d at hd
  have hW : isW d.1.2 = true := by rw [← wkr_of hd]; exact (val_iff l i).1 hv
  have hwk : d.1.2.toNat = wkn l i := by rw [wkn, wkr_of hd]
  rw [okA, get_kd hd, doA_at hW, hwk, (plc_of hd).symm, ← kd_of hd]
  by_cases k0 : kd l i = 0
  · rw [if_pos k0, k0]; rfl
  rw [if_neg k0]
  by_cases k1 : kd l i = 1
  · rw [if_pos k1, k1]; rfl
  rw [if_neg k1]
  by_cases k2 : kd l i = 2
  · rw [if_pos k2, k2]; rfl
  rw [if_neg k2]
  by_cases k3 : kd l i = 3
  · rw [if_pos k3, if_pos k3]
  rw [if_neg k3, if_neg k3]
  by_cases k4 : kd l i = 4
  · rw [if_pos k4, if_pos k4]
  · rw [if_neg k4, if_neg k4]
theorem bef_data {i k : Nat} (hv : Val l i) (hk : k < i) (hvk : Val l k) (hd : kd l i = 3 ∨ kd l i = 4) : Bef l i k ↔ Know l i (wkn l i) k := by
  rw [bef_know hv hk hvk]
  refine ⟨fun e => e.elim id (fun e => ?_), .inl⟩
  rcases e.1 with e | e <;> rcases hd with hd | hd <;> rw [hd] at e <;> exact absurd e (by decide)
/-- The last write is known just if all ahead of it are before. -/
theorem hidW_iff (hl : l.length < 1000) {i : Nat} (hi : i < l.length) (hv : Val l i) (hd : kd l i = 3 ∨ kd l i = 4) : hidW (stA l i) (wkn l i) (plc l i) = false ↔ ∀ k, LastW l (plc l i) i k → Bef l i k := by
  have hI := inv_all hl i (by omega)
  have hu := hv.wk.2
  unfold hidW
  rcases (dnv_all (l := l) i (by omega)).w (plc l i) with ⟨h1, h2⟩ | ⟨k, h1, h2, h3⟩
  · refine ⟨fun _ k hk => absurd hk.2.1 (h1 k hk.1), fun _ => ?_⟩
    have h0 : 0 ≤ atM ((stA l i).N (wkn l i)) ((stA l i).wr (plc l i)) := by
      unfold atM
      split
      · exact (hI.bd.1 _).1.2 _
      · exact Int.le_refl _
    rw [h2, decide_eq_true h0]
    rfl
  · have hvk := h1.2.1.1
    have hw := hvk.wk
    rw [h2, h3, hw.1, atM_nat _ hw.2]
    have hk := (bef_data hv h1.1 hvk hd).trans (hI.know _ k hu h1.1 hvk)
    constructor
    · intro h j hj
      have hjk : j = k := by
        rcases Nat.lt_trichotomy j k with h4 | h4 | h4
        · exact absurd h1.2.1 (hj.2.2 k h4 h1.1)
        · exact h4
        · exact absurd hj.2.1 (h1.2.2 j h4 hj.1)
      rw [hjk]
      exact hk.2 (by simpa using h)
    · intro h
      have := hk.1 (h k h1)
      simpa using this

theorem exists_last {d : Int} : ∀ {i k : Nat}, k < i → Wri l d k → ∃ s, LastW l d i s ∧ k ≤ s
  | 0, k, h, _ => absurd h (Nat.not_lt_zero k)
  | i + 1, k, h, hw => by
    by_cases hi : Wri l d i
    · exact ⟨i, ⟨Nat.lt_succ_self i, hi, fun j a b => by omega⟩, by omega⟩
    · rcases Nat.lt_succ_iff_lt_or_eq.1 h with h | rfl
      · obtain ⟨s, h1, h2⟩ := exists_last h hw
        exact ⟨s, lastW_old hi h1, h2⟩
      · exact absurd hw hi
theorem hidR_iff {N : List Int} {f : Int → Int} : (hidR N f).2 = false ↔ ∀ j : Nat, j < 65 → f (j : Int) ≤ N.getD j 0 := by
  constructor
  · intro h j hj
    unfold hidR at h
    cases hf : (List.range 65).find? fun (j : Nat) => !decide (f (j : Int) ≤ N.getD j 0) with
    | some q => rw [hf] at h; cases h
    | none =>
      have := List.find?_eq_none.1 hf j (List.mem_range.2 hj)
      simpa using this
  · intro h
    rw [hidR_none h]
theorem reads_iff (hl : l.length < 1000) {i : Nat} (hi : i < l.length) (hv : Val l i) (hd : kd l i = 3 ∨ kd l i = 4) (v : Nat) (hv65 : v < 65) :
    (stA l i).rd (plc l i) v ≤ ((stA l i).N (wkn l i)).getD v 0 ↔ ∀ k, RdOf l (plc l i) v i k → Bef l i k := by
  have hI := inv_all hl i (by omega)
  have hu := hv.wk.2
  rcases (dnv_all (l := l) i (by omega)).r (plc l i) v hv65 with ⟨h1, h2⟩ | ⟨k, h1, h2, h3⟩
  · rw [h2]
    exact ⟨fun _ k hk => absurd hk (h1 k), fun _ => (hI.bd.1 _).1.2 _⟩
  · have hk := (bef_data hv h1.1 h1.2.1 hd).trans (hI.know _ k hu h1.1 h1.2.1)
    rw [h1.2.2.2.2.1] at hk
    rw [h3, ← hk]
    constructor
    · intro hb j hj
      rcases Nat.lt_or_eq_of_le (h2 j hj) with h4 | rfl
      · exact hb.trans (.one ⟨h1.2.1, hj.2.1, h4, .inl ((wkr_eq h1.2.1 hj.2.1).2 (by rw [hj.2.2.2.2.1, h1.2.2.2.2.1]))⟩)
      · exact hb
    · intro h
      exact h k h1
theorem ok_iff (hl : l.length < 1000) {i : Nat} (hi : i < l.length) (hord : ∀ j, j < i → ∀ k, Conf l j k → Bef l j k) : okA l i = true ↔ ∀ k, Conf l i k → Bef l i k := by
  by_cases hv : Val l i
  · rw [ok_at hi hv]
    -- what is ahead of the last write is before it
    have hW : (∀ s, LastW l (plc l i) i s → Bef l i s) → ∀ k, Conf l i k → (∃ j, k ≤ j ∧ j < i ∧ Wri l (plc l i) j) → Bef l i k := by
      intro h k hc ⟨j, hkj, hji, hj⟩
      obtain ⟨s, hs, hjs⟩ := exists_last hji hj
      have hb := h s hs
      rcases Nat.lt_or_eq_of_le (Nat.le_trans hkj hjs) with h4 | rfl
      · exact hb.trans (hord s hs.1 k ⟨h4, hs.2.1.1, hc.2.2.1, by rw [hc.2.2.2.1, hs.2.1.2.2], .inr hs.2.1.2.1, hc.2.2.2.2.2.1, .inl hs.2.1.2.1⟩)
      · exact hb
    by_cases k3 : kd l i = 3
    · rw [if_pos k3]
      have hh := hidW_iff hl hi hv (.inl k3)
      constructor
      · intro h k hc
        have h4 : kd l k = 4 := hc.2.2.2.2.2.2.elim (fun e => by rw [k3] at e; exact absurd e (by decide)) id
        exact hW (hh.1 (by simpa using h)) k hc ⟨k, Nat.le_refl k, hc.1, hc.2.2.1, h4, hc.2.2.2.1⟩
      · intro h
        have := hh.2 fun s hs => h s ⟨hs.1, hv, hs.2.1.1, hs.2.1.2.2, .inl k3, .inr hs.2.1.2.1, .inr hs.2.1.2.1⟩
        rw [this]
        rfl
    · rw [if_neg k3]
      by_cases k4 : kd l i = 4
      · rw [if_pos k4]
        have hh := hidW_iff hl hi hv (.inr k4)
        have hr : (hidR ((stA l i).N (wkn l i)) ((stA l i).rd (plc l i))).2 = false ↔ ∀ v, v < 65 → ∀ k, RdOf l (plc l i) v i k → Bef l i k :=
          hidR_iff.trans ⟨fun h v hv65 => (reads_iff hl hi hv (.inr k4) v hv65).1 (h v hv65), fun h v hv65 => (reads_iff hl hi hv (.inr k4) v hv65).2 (h v hv65)⟩
        have hcn : (clashW (stA l i) (wkn l i) (plc l i)).isNone = true ↔ hidW (stA l i) (wkn l i) (plc l i) = false ∧ (hidR ((stA l i).N (wkn l i)) ((stA l i).rd (plc l i))).2 = false := by
          unfold clashW
          cases hidW (stA l i) (wkn l i) (plc l i) <;> cases (hidR ((stA l i).N (wkn l i)) ((stA l i).rd (plc l i))).2 <;> simp
        rw [hcn, hh, hr]
        constructor
        · rintro ⟨h1, h2⟩ k hc
          by_cases hj : ∃ j, k ≤ j ∧ j < i ∧ Wri l (plc l i) j
          · exact hW h1 k hc hj
          · have h3 : kd l k = 3 := hc.2.2.2.2.2.1.elim id (fun e => absurd ⟨k, Nat.le_refl k, hc.1, hc.2.2.1, e, hc.2.2.2.1⟩ hj)
            exact h2 (wkn l k) hc.2.2.1.wk.2 k ⟨hc.1, hc.2.2.1, h3, hc.2.2.2.1, rfl, fun j a b hw => hj ⟨j, by omega, b, hw⟩⟩
        · intro h
          exact ⟨fun s hs => h s ⟨hs.1, hv, hs.2.1.1, hs.2.1.2.2, .inr k4, .inr hs.2.1.2.1, .inl k4⟩,
            fun v _ k hk => h k ⟨hk.1, hv, hk.2.1, hk.2.2.2.1, .inr k4, .inl hk.2.2.1, .inl k4⟩⟩
      · rw [if_neg k4]
        exact ⟨fun _ k hc => absurd hc.2.2.2.2.1 (fun e => e.elim k3 k4), fun _ => rfl⟩
  · refine ⟨fun _ k hc => absurd hc.2.1 hv, fun _ => ?_⟩
    have hd : l[i]? = some (l[i]'hi) := List.getElem?_eq_getElem hi
    generalize l[i]'hi = d at hd
    have hW : isW d.1.2 = false := by
      cases hW : isW d.1.2
      · rfl
      · exact absurd ⟨d, hd, hW⟩ hv
    rw [okA, get_kd hd, doA_not hW]
/-- No clash so far just if all is ordered so far. -/
theorem fine_iff (hl : l.length < 1000) : ∀ i, i ≤ l.length → ((∀ j, j < i → okA l j = true) ↔ ∀ j, j < i → ∀ k, Conf l j k → Bef l j k)
  | 0, _ => ⟨fun _ j h => absurd h (Nat.not_lt_zero j), fun _ j h => absurd h (Nat.not_lt_zero j)⟩
  | i + 1, hi => by
    have ih := fine_iff hl i (by omega)
    constructor
    · intro h
      have h1 := ih.1 (fun j hj => h j (by omega))
      intro j hj
      rcases Nat.lt_succ_iff_lt_or_eq.1 hj with hj | rfl
      · exact h1 j hj
      · exact (ok_iff hl (by omega) h1).1 (h j (Nat.lt_succ_self j))
    · intro h
      have h1 := ih.2 (fun j hj => h j (by omega))
      intro j hj
      rcases Nat.lt_succ_iff_lt_or_eq.1 hj with hj | rfl
      · exact h1 j hj
      · exact (ok_iff hl (by omega) (fun q hq => h q (by omega))).2 (h j (Nat.lt_succ_self j))
theorem doA_cl (a : AX) (d : D3) : ((doA a d).2 = true ∧ (doA a d).1.cl = a.cl) ∨ ((doA a d).2 = false ∧ ∃ x, (doA a d).1.cl = a.cl ++ [x]) := by
  cases hW : isW d.1.2
  · rw [doA_not hW]
    exact .inl ⟨rfl, rfl⟩
  · rw [doA_at hW]
    by_cases k0 : d.1.1 = 0
    · rw [if_pos k0]; exact .inl ⟨rfl, rfl⟩
    rw [if_neg k0]
    by_cases k1 : d.1.1 = 1
    · rw [if_pos k1]; exact .inl ⟨rfl, rfl⟩
    rw [if_neg k1]
    by_cases k2 : d.1.1 = 2
    · rw [if_pos k2]; exact .inl ⟨rfl, rfl⟩
    rw [if_neg k2]
    by_cases k3 : d.1.1 = 3
    · rw [if_pos k3]
      show ((!hidW a d.1.2.toNat d.2) = true ∧ (readA a d.1.2.toNat d.2).cl = a.cl) ∨ ((!hidW a d.1.2.toNat d.2) = false ∧ ∃ x, (readA a d.1.2.toNat d.2).cl = a.cl ++ [x])
      unfold readA
      cases hidW a d.1.2.toNat d.2
      · exact .inl ⟨rfl, rfl⟩
      · exact .inr ⟨rfl, _, rfl⟩
    rw [if_neg k3]
    by_cases k4 : d.1.1 = 4
    · rw [if_pos k4]
      show ((clashW a d.1.2.toNat d.2).isNone = true ∧ (writeA a d.1.2.toNat d.2).cl = a.cl) ∨ ((clashW a d.1.2.toNat d.2).isNone = false ∧ ∃ x, (writeA a d.1.2.toNat d.2).cl = a.cl ++ [x])
      unfold writeA
      cases clashW a d.1.2.toNat d.2
      · exact .inl ⟨rfl, rfl⟩
      · exact .inr ⟨rfl, _, rfl⟩
    · rw [if_neg k4]
      exact .inl ⟨rfl, rfl⟩
theorem cl_iff : ∀ i, (stA l i).cl = [] ↔ ∀ j, j < i → okA l j = true
  | 0 => ⟨fun _ j h => absurd h (Nat.not_lt_zero j), fun _ => rfl⟩
  | i + 1 => by
    have ih := cl_iff i
    show (doA (stA l i) (l.getD i ((-1, -1), 0))).1.cl = [] ↔ _
    rcases doA_cl (stA l i) (l.getD i ((-1, -1), 0)) with ⟨h1, h2⟩ | ⟨h1, x, h2⟩
    · rw [h2, ih]
      constructor
      · intro h j hj
        rcases Nat.lt_succ_iff_lt_or_eq.1 hj with hj | rfl
        · exact h j hj
        · exact h1
      · exact fun h j hj => h j (by omega)
    · rw [h2]
      constructor
      · intro h
        simp at h
      · intro h
        have := h i (Nat.lt_succ_self i)
        rw [okA, h1] at this
        cases this

end Go.Proofs.Ytabcnmpnjnegdaa
