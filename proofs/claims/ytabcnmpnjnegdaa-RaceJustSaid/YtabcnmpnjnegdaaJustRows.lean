/- The rows of RaceJust, as it fills them: plain. -/
import Derived.Test.YtabcnmpnjnegdaaJustMem
namespace Go.Proofs.Ytabcnmpnjnegdaa

section
variable {l : List D3}
/-- The same worker's deeds ahead of k. -/
def sameB (l : List D3) (i k j : Nat) : Bool := decide (j < k ∧ wkr l j = wkr l i)
theorem sameB_zero (i j : Nat) : sameB l i 0 j = false := decide_eq_false (fun h => absurd h.1 (Nat.not_lt_zero j))
theorem sameB_yes {i k : Nat} (h : wkr l k = wkr l i) (j : Nat) : (if j = k then true else sameB l i k j) = sameB l i (k + 1) j := by
  by_cases e : j = k
  · subst e
    rw [if_pos rfl]
    exact (decide_eq_true ⟨Nat.lt_succ_self j, h⟩).symm
  · rw [if_neg e]
    unfold sameB
    exact decide_eq_decide.2 ⟨fun h => ⟨by omega, h.2⟩, fun h => ⟨by omega, h.2⟩⟩
theorem sameB_no {i k : Nat} (h : wkr l k ≠ wkr l i) (j : Nat) : sameB l i k j = sameB l i (k + 1) j := by
  unfold sameB
  exact decide_eq_decide.2 ⟨fun h => ⟨by omega, h.2⟩, fun h' => ⟨by
    rcases Nat.lt_succ_iff_lt_or_eq.1 h'.1 with e | e
    · exact e
    · rw [e] at h'; exact absurd h'.2 h, h'.2⟩⟩
/-- The last store or swap of the place ahead of i, or -1. -/
def LastI (l : List D3) (p : Int) (i : Nat) (v : Int) : Prop := (v = -1 ∧ ∀ s, ¬ Last l p i s) ∨ ∃ s : Nat, v = (s : Int) ∧ Last l p i s
theorem LastI.zero (p : Int) : LastI l p 0 (-1) := .inl ⟨rfl, fun s h => absurd h.1 (Nat.not_lt_zero s)⟩
theorem LastI.yes {p : Int} {i : Nat} (h : Sto l p i) : LastI l p (i + 1) (i : Int) := .inr ⟨i, rfl, Nat.lt_succ_self i, h, fun j a b => by omega⟩
theorem LastI.no {p v : Int} {i : Nat} (h : ¬ Sto l p i) (hv : LastI l p i v) : LastI l p (i + 1) v := by
  rcases hv with ⟨h1, h2⟩ | ⟨s, h1, h2⟩
  · refine .inl ⟨h1, fun s hs => h2 s ⟨?_, hs.2.1, fun j a b => hs.2.2 j a (by omega)⟩⟩
    rcases Nat.lt_succ_iff_lt_or_eq.1 hs.1 with e | e
    · exact e
    · rw [e] at hs; exact absurd hs.2.1 h
  · refine .inr ⟨s, h1, Nat.lt_succ_of_lt h2.1, h2.2.1, fun j a b => ?_⟩
    rcases Nat.lt_succ_iff_lt_or_eq.1 b with e | e
    · exact h2.2.2 j a e
    · rw [e]; exact h
theorem last_one {p : Int} {i s t : Nat} (h : Last l p i s) (k : Last l p i t) : s = t := by
  rcases Nat.lt_trichotomy s t with e | e | e
  · exact absurd k.2.1 (h.2.2 t e k.1)
  · exact e
  · exact absurd h.2.1 (k.2.2 s e h.1)
theorem same_val {i j : Nat} (hv : Val l i) (h : wkr l j = wkr l i) : Val l j := by
  rw [val_iff, h]
  exact (val_iff l i).1 hv
theorem base_no {i : Nat} (hv : Val l i) (h : ¬ (kd l i = 0 ∨ kd l i = 2) ∨ ∀ s, ¬ Last l (plc l i) i s) (k : Nat) : sameB l i i k = dB (Base l i k) := by
  refine dB_of ?_
  unfold sameB
  rw [decide_eq_true_iff]
  exact ⟨fun e => ⟨hv, same_val hv e.2, e.1, .inl e.2⟩, fun e => ⟨e.2.2.1, e.2.2.2.elim id (fun e2 => h.elim (fun h => absurd e2.1 h) (fun h => absurd e2.2 (h k)))⟩⟩
theorem base_yes {i s : Nat} (hv : Val l i) (hk : kd l i = 0 ∨ kd l i = 2) (hs : Last l (plc l i) i s) (k : Nat) : (if k = s then true else sameB l i i k) = dB (Base l i k) := by
  by_cases e : k = s
  · subst e
    rw [if_pos rfl]
    exact (dB_iff.2 ⟨hv, hs.2.1.1, hs.1, .inr ⟨hk, hs⟩⟩).symm
  · rw [if_neg e]
    refine dB_of ?_
    unfold sameB
    rw [decide_eq_true_iff]
    exact ⟨fun e => ⟨hv, same_val hv e.2, e.1, .inl e.2⟩, fun e2 => ⟨e2.2.2.1, e2.2.2.2.elim id (fun e3 => absurd (last_one e3.2 hs) e)⟩⟩
/-- What is before i by a chain whose first step is not ahead of c, or by one step. -/
def cloP (l : List D3) (i c m : Nat) : Prop := Base l i m ∨ ∃ j, c ≤ j ∧ Base l i j ∧ Bef l j m
theorem clo_top (i m : Nat) : cloP l i i m ↔ Base l i m := ⟨fun h => h.elim id (fun ⟨_, h1, h2, _⟩ => absurd h2.2.2.1 (by omega)), .inl⟩
theorem clo_zero (i m : Nat) : cloP l i 0 m ↔ Bef l i m := by
  rw [bef_iff]
  exact ⟨fun h => h.imp id (fun ⟨j, _, h⟩ => ⟨j, h⟩), fun h => h.imp id (fun ⟨j, h⟩ => ⟨j, Nat.zero_le _, h⟩)⟩
theorem clo_step (i k m : Nat) : cloP l i k m ↔ cloP l i (k + 1) m ∨ (cloP l i (k + 1) k ∧ Bef l k m) := by
  constructor
  · rintro (h | ⟨j, h1, h2, h3⟩)
    · exact .inl (.inl h)
    · rcases Nat.lt_or_eq_of_le h1 with h4 | rfl
      · exact .inl (.inr ⟨j, h4, h2, h3⟩)
      · exact .inr ⟨.inl h2, h3⟩
  · rintro ((h | ⟨j, h1, h2, h3⟩) | ⟨h | ⟨j, h1, h2, h3⟩, h4⟩)
    · exact .inl h
    · exact .inr ⟨j, by omega, h2, h3⟩
    · exact .inr ⟨k, Nat.le_refl k, h, h4⟩
    · exact .inr ⟨j, by omega, h2, h3.trans h4⟩
noncomputable def midB (l : List D3) (i k m x : Nat) : Bool := if x < m then dB (cloP l i k x) else dB (cloP l i (k + 1) x)
theorem mid_zero (i k x : Nat) : dB (cloP l i (k + 1) x) = midB l i k 0 x := (if_neg (Nat.not_lt_zero x)).symm
theorem mid_end {i k m : Nat} (hm : k ≤ m) (x : Nat) : midB l i k m x = dB (cloP l i k x) := by
  unfold midB
  by_cases e : x < m
  · rw [if_pos e]
  · rw [if_neg e]
    refine dB_eq ((clo_step i k x).trans ⟨fun h => h.elim id (fun h => absurd h.2.lt (by omega)), .inl⟩).symm
theorem mid_skip {i k : Nat} (h : dB (cloP l i (k + 1) k) = false) (x : Nat) : midB l i k 0 x = dB (cloP l i k x) := by
  unfold midB
  rw [if_neg (Nat.not_lt_zero x)]
  exact dB_eq ((clo_step i k x).trans ⟨fun e => e.elim id (fun e => absurd e.1 (dB_no.1 h)), .inl⟩).symm
theorem mid_self {i k m : Nat} (hm : m ≤ k) : midB l i k m k = dB (cloP l i (k + 1) k) := if_neg (by omega)
theorem mid_step {i k m : Nat} (h : dB (cloP l i (k + 1) k) = true) (x : Nat) : (if x = m then (midB l i k m m || dB (Bef l k m)) else midB l i k m x) = midB l i k (m + 1) x := by
  by_cases e : x = m
  · subst e
    rw [if_pos rfl]
    unfold midB
    rw [if_neg (Nat.lt_irrefl x), if_pos (Nat.lt_succ_self x)]
    refine dB_of ?_
    rw [Bool.or_eq_true, dB_iff, dB_iff, clo_step i k x]
    exact ⟨fun e => e.imp id (fun e => ⟨dB_iff.1 h, e⟩), fun e => e.imp id (fun e => e.2)⟩
  · rw [if_neg e]
    unfold midB
    by_cases e2 : x < m
    · rw [if_pos e2, if_pos (by omega)]
    · rw [if_neg e2, if_neg (by omega)]

/-- A clash by the document's words, up to deed k of those ahead of i. -/
def Cl (l : List D3) (i k : Nat) : Prop := (∃ j, j < i ∧ ∃ q, Conf l j q ∧ ¬ Bef l j q) ∨ ∃ q, q < k ∧ Conf l i q ∧ ¬ Bef l i q
theorem Cl.zero : ¬ Cl l 0 0 := fun h => h.elim (fun ⟨j, h, _⟩ => absurd h (Nat.not_lt_zero j)) (fun ⟨q, h, _⟩ => absurd h (Nat.not_lt_zero q))
theorem Cl.old {i k : Nat} (h : Cl l i k) : Cl l i (k + 1) := h.imp id fun ⟨q, h1, h2⟩ => ⟨q, by omega, h2⟩
theorem Cl.step {i k : Nat} (h : ¬ Cl l i k) : Cl l i (k + 1) ↔ Conf l i k ∧ ¬ Bef l i k := by
  constructor
  · rintro (h1 | ⟨q, h1, h2⟩)
    · exact absurd (.inl h1) h
    · rcases Nat.lt_succ_iff_lt_or_eq.1 h1 with h3 | rfl
      · exact absurd (.inr ⟨q, h3, h2⟩) h
      · exact h2
  · intro h1
    exact .inr ⟨k, Nat.lt_succ_self k, h1⟩
theorem Cl.next (i : Nat) : Cl l i i ↔ Cl l (i + 1) 0 := by
  constructor
  · rintro (⟨j, h1, h2⟩ | ⟨q, h1, h2⟩)
    · exact .inl ⟨j, by omega, h2⟩
    · exact .inl ⟨i, Nat.lt_succ_self i, q, h2⟩
  · rintro (⟨j, h1, q, h2⟩ | ⟨q, h1, _⟩)
    · rcases Nat.lt_succ_iff_lt_or_eq.1 h1 with h3 | rfl
      · exact .inl ⟨j, h3, q, h2⟩
      · exact .inr ⟨q, h2.1.1, h2⟩
    · exact absurd h1 (Nat.not_lt_zero q)
theorem Cl.none {i : Nat} (hv : ¬ Val l i) : Cl l i 0 ↔ Cl l (i + 1) 0 := by
  rw [← Cl.next]
  exact ⟨fun h => h.imp id (fun ⟨q, h1, _⟩ => absurd h1 (Nat.not_lt_zero q)), fun h => h.imp id (fun ⟨_, _, h2, _⟩ => absurd h2.2.1 hv)⟩
theorem Cl.fine (hl : l.length < 1000) : Cl l l.length 0 ↔ ¬ ∀ j, j < l.length → okA l j = true := by
  rw [fine_iff hl l.length (Nat.le_refl _)]
  constructor
  · rintro (⟨j, h1, q, h2, h3⟩ | ⟨q, h1, _⟩) h
    · exact h3 (h j h1 q h2)
    · exact absurd h1 (Nat.not_lt_zero q)
  · intro h
    refine Classical.byContradiction fun hc => h fun j hj k hk => Classical.byContradiction fun hb => hc (.inl ⟨j, hj, k, hk, hb⟩)
theorem ok_not {i : Nat} (hi : i < l.length) (hv : ¬ Val l i) : okA l i = true := by
  have hd : l[i]? = some (l[i]'hi) := List.getElem?_eq_getElem hi
  generalize l[i]'hi = d at hd
  have hW : isW d.1.2 = false := by
    cases hW : isW d.1.2
    · rfl
    · exact absurd ⟨d, hd, hW⟩ hv
  rw [okA, get_kd hd, doA_not hW]
theorem fine_step {i : Nat} {f : Bool} (h : f = true ↔ ∀ j, j < i → okA l j = true) : (f && okA l i) = true ↔ ∀ j, j < i + 1 → okA l j = true := by
  rw [Bool.and_eq_true, h]
  exact ⟨fun e j hj => (Nat.lt_succ_iff_lt_or_eq.1 hj).elim (e.1 j) (fun e2 => by rw [e2]; exact e.2), fun e => ⟨fun j hj => e j (by omega), e i (Nat.lt_succ_self i)⟩⟩
end

end Go.Proofs.Ytabcnmpnjnegdaa
