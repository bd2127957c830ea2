/- Plain mathematics of what is handed on from worker to worker. -/
import Derived.Test.YtabcnmpnjnegdaaTopKnown
namespace Go.Proofs.Ytabcnmpnjnegdaa

theorem atM_at (N : List Int) {k : Nat} (hk : k < 65) : atM N (k : Int) = N.getD k 0 := atM_nat N hk
theorem num_nonneg {N : List Int} (h : IsNum N) (j : Nat) : 0 ≤ N.getD j 0 := h.2 j

/-- Of the first i workers each one loaded what the last one had stored. -/
def HX (i : Nat) (a : AX) : Prop :=
  a.cl = [] ∧ bdA a ((i : Int) + 1) ∧ (∀ j, a.rd 7 j = 0) ∧ ∃ p : Nat, p < 65 ∧ a.wr 7 = (p : Int) ∧ (i = 0 → a.wt 7 = 0) ∧ (0 < i → a.wt 7 ≤ (a.pn ((i : Int) - 1)).getD p 0)
theorem HX.zero : HX 0 newA := ⟨rfl, bd_new, fun _ => rfl, 0, by decide, rfl, fun _ => rfl, fun h => absurd h (Nat.lt_irrefl 0)⟩
/-- What worker k knows of the last write. -/
def HXk (i k : Nat) (a : AX) : Prop := a.cl = [] ∧ bdA a ((i : Int) + 1) ∧ (∀ j, a.rd 7 j = 0) ∧ a.wt 7 ≤ atM (a.N k) (a.wr 7)
theorem HX.first {k : Nat} {a : AX} (h : HX 0 a) : HXk 0 k a := by
  obtain ⟨h1, h2, h3, p, hp, h4, h5, _⟩ := h
  refine ⟨h1, h2, h3, ?_⟩
  rw [h5 rfl, h4, atM_at _ hp]
  exact (h2.1 k).1.2 p
theorem HX.load {i k : Nat} {a : AX} (h : HX i a) (hi : 0 < i) : HXk i k (loadA a k ((i : Int) - 1)) := by
  obtain ⟨h1, h2, h3, p, hp, h4, _, h6⟩ := h
  refine ⟨h1, bd_load h2 k _, h3, ?_⟩
  show a.wt 7 ≤ atM (updN a.N k (joinN (a.N k) (a.pn ((i : Int) - 1))) k) (a.wr 7)
  rw [updN, if_pos rfl, h4, atM_at _ hp, join_at (h2.1 k).1 (h2.2 _).1]
  have := h6 hi
  omega
theorem hidW_false {a : AX} {k : Nat} (h : a.wt 7 ≤ atM (a.N k) (a.wr 7)) : hidW a k 7 = false := by
  rw [hidW, decide_eq_true h]
  rfl
theorem HXk.read {i k : Nat} {a : AX} (h : HXk i k a) (_ : k < 65) : ∃ t, 0 ≤ t ∧ t = (a.N k).getD k 0 ∧ readA a k 7 = { a with rd := updI a.rd 7 (updI (a.rd 7) k t) } := by
  obtain ⟨h1, h2, h3, h4⟩ := h
  refine ⟨_, (h2.1 k).1.2 k, rfl, ?_⟩
  rw [readA, hidW_false h4]
  rfl
theorem HXk.write {i k : Nat} {a : AX} (h : HXk i k a) (hk : k < 65) : HX (i + 1) (storeA (writeA (readA a k 7) k 7) k i) := by
  obtain ⟨t, ht0, ht, hr⟩ := h.read hk
  obtain ⟨h1, h2, h3, h4⟩ := h
  have hw : hidW (readA a k 7) k 7 = false := by
    rw [hr]
    exact hidW_false h4
  have hrd : hidR ((readA a k 7).N k) ((readA a k 7).rd 7) = (0, false) := by
    refine hidR_none fun j _ => ?_
    rw [hr]
    show updI a.rd 7 (updI (a.rd 7) k t) 7 j ≤ (a.N k).getD j 0
    rw [updI, if_pos rfl, updI]
    by_cases e : (j : Int) = k
    · have : j = k := by omega
      subst this
      rw [if_pos rfl, ht]
      exact Int.le_refl _
    · rw [if_neg e, h3]
      exact (h2.1 k).1.2 j
  have hc : clashW (readA a k 7) k 7 = none := by
    rw [clashW, hw, hrd]
    rfl
  have hwr : writeA (readA a k 7) k 7 = { a with wr := updI a.wr 7 k, wt := updI a.wt 7 t, rd := updI (updI a.rd 7 (updI (a.rd 7) k t)) 7 (fun _ => 0) } := by
    rw [writeA, hc, hr, ht]
  rw [hwr]
  refine ⟨h1, ?_, fun j => ?_, k, hk, ?_, fun e => by omega, fun _ => ?_⟩
  · have := bd_store (a := { a with wr := updI a.wr 7 k, wt := updI a.wt 7 t, rd := updI (updI a.rd 7 (updI (a.rd 7) k t)) 7 (fun _ => 0) }) (c := (i : Int) + 1) h2 k i
    rw [show ((i + 1 : Nat) : Int) + 1 = (i : Int) + 1 + 1 by omega]
    exact this
  · show updI (updI a.rd 7 (updI (a.rd 7) k t)) 7 (fun _ => 0) 7 j = 0
    rw [updI, if_pos rfl]
  · show updI a.wr 7 k 7 = _
    rw [updI, if_pos rfl]
  · show updI a.wt 7 t 7 ≤ (updI a.pn i (a.N k) (((i + 1 : Nat) : Int) - 1)).getD k 0
    rw [updI, if_pos rfl, updI, if_pos (by omega), ht]
    exact Int.le_refl _

/-- Worker number l had nothing to do with those ahead of it. -/
def Alone (ws : List Nat) (l : Nat) : Prop := ∃ q, ws[l]? = some q ∧ ¬ q ∈ ws.take l
/-- Of the first i workers each one but number l loaded what the last one had stored. -/
def HY (ws : List Nat) (lazy : Int) (i : Nat) (a : AX) : Prop :=
  bdA a ((i : Int) + 1) ∧ (∀ q, q < 65 → 1 ≤ (a.N q).getD q 0) ∧ (∀ q, q < 65 → ¬ q ∈ ws.take i → a.N q = newA.N q) ∧ (0 < i → ∃ p, p < 65 ∧ ws[i - 1]? = some p ∧ a.wr 7 = (p : Int) ∧ 1 ≤ a.wt 7) ∧
    ∀ l : Nat, lazy = (l : Int) → 0 < l → Alone ws l → l < i → a.cl ≠ []
theorem new_N (q : Nat) (hq : q < 65) : newA.N q = tickN zeroN q := if_pos hq
theorem new_self {q : Nat} (hq : q < 65) : (newA.N q).getD q 0 = 1 := by
  rw [new_N q hq, tick_self zeroN_num hq (by rw [zeroN_at]; decide), zeroN_at]
  rfl
theorem new_other {q p : Nat} (hq : q < 65) (hne : p ≠ q) : (newA.N q).getD p 0 = 0 := by
  rw [new_N q hq, tickN, Int.toNat_natCast]
  split
  · rw [set_getD _ _ _ _ (by rw [zeroN_num.1]; exact hq), if_neg (fun e => hne e.symm), zeroN_at]
  · exact zeroN_at p
theorem HY.zero (ws : List Nat) (lazy : Int) : HY ws lazy 0 newA :=
  ⟨bd_new, fun q hq => by rw [new_self hq]; decide, fun _ _ _ => rfl, fun h => absurd h (Nat.lt_irrefl 0), fun _ _ _ _ h => absurd h (Nat.not_lt_zero _)⟩
/-- .. and worker i has loaded it, or was too lazy. -/
def HYk (ws : List Nat) (lazy : Int) (i k : Nat) (a : AX) : Prop :=
  bdA a ((i : Int) + 1) ∧ (∀ q, q < 65 → 1 ≤ (a.N q).getD q 0) ∧ (∀ q, q < 65 → ¬ q ∈ ws.take i → q ≠ k → a.N q = newA.N q) ∧
    (lazy = (i : Int) → 0 < i → Alone ws i → hidW a k 7 = true) ∧ ∀ l : Nat, lazy = (l : Int) → 0 < l → Alone ws l → l < i → a.cl ≠ []
theorem HY.load {ws : List Nat} {lazy : Int} {i k : Nat} {a : AX} (h : HY ws lazy i a) (hl : (i : Int) ≠ lazy) (p : Int) : HYk ws lazy i k (loadA a k p) := by
  obtain ⟨h1, h2, h3, _, h5⟩ := h
  refine ⟨bd_load h1 k p, fun q hq => Int.le_trans (h2 q hq) (load_more h1 k q p q), fun q hq hn hne => ?_, fun e => absurd e.symm hl, h5⟩
  show updN a.N k _ q = _
  rw [updN, if_neg hne]
  exact h3 q hq hn
theorem HY.lazy {ws : List Nat} {lazy : Int} {i k : Nat} {a : AX} (h : HY ws lazy i a) (hk : k < 65) (hws : ws[i]? = some k) : HYk ws lazy i k a := by
  obtain ⟨h1, h2, h3, h4, h5⟩ := h
  refine ⟨h1, h2, fun q hq hn _ => h3 q hq hn, fun _ hi ha => ?_, h5⟩
  obtain ⟨q, hq, hn⟩ := ha
  rw [hws] at hq
  injection hq with hq
  subst hq
  obtain ⟨p, hp, hwp, hwr, hwt⟩ := h4 hi
  have hpk : p ≠ k := fun e => hn (by
    rw [← e]
    refine List.mem_iff_getElem?.2 ⟨i - 1, ?_⟩
    rw [List.getElem?_take, if_pos (by omega)]
    exact hwp)
  rw [hidW, hwr, atM_at _ hp, h3 k hk hn, new_other hk hpk]
  have : ¬ a.wt 7 ≤ 0 := by omega
  rw [decide_eq_false this]
  rfl
theorem writeA_cl (a : AX) (k : Nat) (h : a.cl ≠ []) : (writeA a k 7).cl ≠ [] := by
  show (match clashW a k 7 with | some x => a.cl ++ [(x, (((k : Int), (7 : Int)), true))] | none => a.cl) ≠ []
  split
  · simp
  · exact h
theorem HYk.write {ws : List Nat} {lazy : Int} {i k : Nat} {a : AX} (h : HYk ws lazy i k a) (hk : k < 65) (hws : ws[i]? = some k) : HY ws lazy (i + 1) (storeA (writeA a k 7) k i) := by
  obtain ⟨h1, h2, h3, h4, h5⟩ := h
  have hb : bdA (writeA a k 7) ((i : Int) + 1) := h1
  have htk : ws.take (i + 1) = ws.take i ++ [k] := by
    rw [List.take_add_one, hws]
    rfl
  refine ⟨?_, fun q hq => Int.le_trans (h2 q hq) (store_more hb k q i q), fun q hq hn => ?_, fun _ => ⟨k, hk, by simpa using hws, ?_, ?_⟩, fun l hl h0 ha hli => ?_⟩
  · have := bd_store hb k i
    rw [show ((i + 1 : Nat) : Int) + 1 = (i : Int) + 1 + 1 by omega]
    exact this
  · rw [htk] at hn
    have hne : q ≠ k := fun e => hn (by rw [e]; simp)
    rw [store_other hne]
    exact h3 q hq (fun e => hn (List.mem_append_left _ e)) hne
  · show updI a.wr 7 k 7 = _
    rw [updI, if_pos rfl]
  · show 1 ≤ updI a.wt 7 ((a.N k).getD k 0) 7
    rw [updI, if_pos rfl]
    exact h2 k hk
  · show (writeA a k 7).cl ≠ []
    rcases Nat.lt_succ_iff_lt_or_eq.1 hli with hli | rfl
    · exact writeA_cl a k (h5 l hl h0 ha hli)
    · have hh := h4 hl h0 ha
      show (match clashW a k 7 with | some x => a.cl ++ [(x, (((k : Int), (7 : Int)), true))] | none => a.cl) ≠ []
      rw [clashW, hh]
      simp

end Go.Proofs.Ytabcnmpnjnegdaa
