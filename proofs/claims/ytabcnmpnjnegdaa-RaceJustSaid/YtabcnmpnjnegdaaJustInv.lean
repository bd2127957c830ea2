/- The clocks tell just what is before what, whatever the deeds; and what is noted of data. -/
import Derived.Test.YtabcnmpnjnegdaaJustPlain
namespace Go.Proofs.Ytabcnmpnjnegdaa

variable {l : List D3}
theorem get_kd {i : Nat} {d : D3} (h : l[i]? = some d) : l.getD i ((-1, -1), 0) = d := by rw [List.getD_eq_getElem?_getD, h]; rfl
theorem kd_of {i : Nat} {d : D3} (h : l[i]? = some d) : kd l i = d.1.1 := by rw [kd, get_kd h]
theorem wkr_of {i : Nat} {d : D3} (h : l[i]? = some d) : wkr l i = d.1.2 := by rw [wkr, get_kd h]
theorem plc_of {i : Nat} {d : D3} (h : l[i]? = some d) : plc l i = d.2 := by rw [plc, get_kd h]
theorem Inv.skip {i : Nat} {a : AX} (h : Inv l i a) (hv : ¬ Val l i) : Inv l (i + 1) a := by
  have hsto : ∀ p, ¬ Sto l p i := fun p e => hv e.1
  refine ⟨⟨fun k => ⟨(h.bd.1 k).1, fun j => by have := (h.bd.1 k).2 j; omega⟩, fun p => ⟨(h.bd.2 p).1, fun j => by have := (h.bd.2 p).2 j; omega⟩⟩, h.own, h.less, h.lessP, fun w k hw hk hvk => ?_, fun p k hk hvk => ?_⟩
  · rcases Nat.lt_succ_iff_lt_or_eq.1 hk with hk | rfl
    · rw [know_same hk (fun e => absurd e hv)]
      exact h.know w k hw hk hvk
    · exact absurd hvk hv
  · rcases Nat.lt_succ_iff_lt_or_eq.1 hk with hk | rfl
    · rw [← h.place p k hk hvk]
      constructor
      · rintro ⟨s, h1, h2⟩
        exact ⟨s, (last_old (hsto p)).1 h1, h2⟩
      · rintro ⟨s, h1, h2⟩
        exact ⟨s, (last_old (hsto p)).2 h1, h2⟩
    · exact absurd hvk hv

/-- A step that leaves all clocks as they are, of a worker. -/
theorem Inv.same {i : Nat} {a a' : AX} (h : Inv l i a) (hlen : i < 1000) (hv : Val l i) (ht : tmA l i = (a.N (wkn l i)).getD (wkn l i) 0) (hk : ¬ (kd l i = 0 ∨ kd l i = 1 ∨ kd l i = 2)) (hN : a'.N = a.N) (hP : a'.pn = a.pn) : Inv l (i + 1) a' := by
  obtain ⟨_, hu⟩ := hv.wk
  refine h.step hlen hv ht (a.N (wkn l i)) (h.bd.1 _) rfl (fun v hv65 hne => ?_) (fun j => Int.le_refl _) (fun k hki hvk => ?_) false (fun p => ?_) (fun w => ?_) (fun p => ?_)
  · exact h.less _ v hv65 hu (fun e => hne e.symm)
  · rw [bef_know hv hki hvk, ← h.know _ k hu hki hvk]
    exact ⟨fun e => e.elim id (fun e => absurd (e.1.elim .inl (fun e => .inr (.inr e))) hk), .inl⟩
  · exact ⟨fun e => absurd (e.2.1.elim (fun e => .inr (.inl e)) (fun e => .inr (.inr e))) hk, fun e => by cases e.1⟩
  · rw [hN]
    split
    · rename_i e; rw [e]; rfl
    · rfl
  · rw [hP, if_neg (fun e => by cases e.1)]
/-- A load, or what loads first and then stores. -/
theorem Inv.loads {i : Nat} {a a' : AX} (h : Inv l i a) (hlen : i < 1000) (hv : Val l i) (ht : tmA l i = (a.N (wkn l i)).getD (wkn l i) 0) (hk : kd l i = 0 ∨ kd l i = 2) (st : Bool) (hst : st = true ↔ kd l i = 2)
    (hN : ∀ w, a'.N w = if w = wkn l i then (if st = true then tickN (joinN (a.N (wkn l i)) (a.pn (plc l i))) (wkn l i) else joinN (a.N (wkn l i)) (a.pn (plc l i))) else a.N w)
    (hP : ∀ p, a'.pn p = if st = true ∧ p = plc l i then joinN (a.N (wkn l i)) (a.pn (plc l i)) else a.pn p) : Inv l (i + 1) a' := by
  obtain ⟨_, hu⟩ := hv.wk
  have hj := join_at (h.bd.1 (wkn l i)).1 (h.bd.2 (plc l i)).1
  refine h.step hlen hv ht (joinN (a.N (wkn l i)) (a.pn (plc l i))) ⟨joinN_num (h.bd.1 _).1, fun j => ?_⟩ ?_ (fun v hv65 hne => ?_) (fun j => ?_) (fun k hki hvk => ?_) st (fun p => ?_) hN hP
  · rw [hj]
    have := (h.bd.1 (wkn l i)).2 j
    have := (h.bd.2 (plc l i)).2 j
    omega
  · rw [hj]
    have := h.lessP (plc l i) (wkn l i) hu
    omega
  · rw [hj]
    have := h.less (wkn l i) v hv65 hu (fun e => hne e.symm)
    have := h.lessP (plc l i) v hv65
    omega
  · rw [hj]
    omega
  · rw [bef_know hv hki hvk, h.know _ k hu hki hvk, h.place _ k hki hvk, hj]
    constructor
    · rintro (e | ⟨_, e⟩) <;> omega
    · intro e
      by_cases e2 : tmA l k ≤ (a.N (wkn l i)).getD (wkn l k) 0
      · exact .inl e2
      · exact .inr ⟨hk, by omega⟩
  · rw [hst]
    constructor
    · rintro ⟨_, e | e, e2⟩
      · rcases hk with hk | hk <;> rw [hk] at e <;> exact absurd e (by decide)
      · exact ⟨e, e2.symm⟩
    · rintro ⟨e, e2⟩
      exact ⟨hv, .inr e, e2.symm⟩
theorem Inv.stores {i : Nat} {a a' : AX} (h : Inv l i a) (hlen : i < 1000) (hv : Val l i) (ht : tmA l i = (a.N (wkn l i)).getD (wkn l i) 0) (hk : kd l i = 1)
    (hN : ∀ w, a'.N w = if w = wkn l i then tickN (a.N (wkn l i)) (wkn l i) else a.N w) (hP : ∀ p, a'.pn p = if p = plc l i then a.N (wkn l i) else a.pn p) : Inv l (i + 1) a' := by
  obtain ⟨_, hu⟩ := hv.wk
  refine h.step hlen hv ht (a.N (wkn l i)) (h.bd.1 _) rfl (fun v hv65 hne => ?_) (fun j => Int.le_refl _) (fun k hki hvk => ?_) true (fun p => ?_) (fun w => ?_) (fun p => ?_)
  · exact h.less _ v hv65 hu (fun e => hne e.symm)
  · rw [bef_know hv hki hvk, ← h.know _ k hu hki hvk]
    refine ⟨fun e => e.elim id (fun e => ?_), .inl⟩
    rcases e.1 with e | e <;> rw [hk] at e <;> exact absurd e (by decide)
  · exact ⟨fun e => ⟨rfl, e.2.2.symm⟩, fun e => ⟨hv, .inl hk, e.2.symm⟩⟩
  · rw [hN w]
    simp
  · rw [hP p]
    simp

theorem doA_not {a : AX} {d : D3} (h : isW d.1.2 = false) : doA a d = (a, true) := by rw [doA, h]; rfl
theorem doA_at {a : AX} {d : D3} (h : isW d.1.2 = true) : doA a d = (if d.1.1 = 0 then (loadA a d.1.2.toNat d.2, true) else if d.1.1 = 1 then (storeA a d.1.2.toNat d.2, true) else if d.1.1 = 2 then (swapA a d.1.2.toNat d.2, true)
      else if d.1.1 = 3 then (readA a d.1.2.toNat d.2, !hidW a d.1.2.toNat d.2) else if d.1.1 = 4 then (writeA a d.1.2.toNat d.2, (clashW a d.1.2.toNat d.2).isNone) else (a, true)) := by rw [doA, if_pos h]

theorem inv_all (hl : l.length < 1000) : ∀ i, i ≤ l.length → Inv l i (stA l i)
  | 0, _ => Inv.zero
  | i + 1, hi => by
    have ih := inv_all hl i (by omega)
    have hd : l[i]? = some (l[i]'(by omega)) := List.getElem?_eq_getElem (by omega)
    generalize l[i]'(by omega) = d at hd
    have ht : tmA l i = ((stA l i).N (wkn l i)).getD (wkn l i) 0 := rfl
    show Inv l (i + 1) (doA (stA l i) (l.getD i ((-1, -1), 0))).1
    rw [get_kd hd]
    have hlen : i < 1000 := by omega
    cases hW : isW d.1.2
    · rw [doA_not hW]
      exact ih.skip (fun e => by rw [val_iff, wkr_of hd, hW] at e; cases e)
    · have hv : Val l i := ⟨d, hd, hW⟩
      have hwk : d.1.2.toNat = wkn l i := by rw [wkn, wkr_of hd]
      have hp : d.2 = plc l i := (plc_of hd).symm
      have hk := kd_of hd
      rw [doA_at hW, hwk, hp, ← hk]
      by_cases k0 : kd l i = 0
      · rw [if_pos k0]
        refine ih.loads hlen hv ht (.inl k0) false ⟨fun e => by (cases e), fun e => by rw [k0] at e; exact absurd e (by decide)⟩ (fun w => ?_) (fun p => ?_)
        · show updN _ _ _ w = _
          unfold updN
          simp
        · rw [if_neg (fun e => by cases e.1)]
          rfl
      rw [if_neg k0]
      by_cases k1 : kd l i = 1
      · rw [if_pos k1]
        exact ih.stores hlen hv ht k1 (fun w => rfl) (fun p => rfl)
      rw [if_neg k1]
      by_cases k2 : kd l i = 2
      · rw [if_pos k2]
        have hup : updN (stA l i).N (wkn l i) (joinN ((stA l i).N (wkn l i)) ((stA l i).pn (plc l i))) (wkn l i) = joinN ((stA l i).N (wkn l i)) ((stA l i).pn (plc l i)) := if_pos rfl
        refine ih.loads hlen hv ht (.inr k2) true ⟨fun _ => k2, fun _ => rfl⟩ (fun w => ?_) (fun p => ?_)
        · show updN (updN (stA l i).N (wkn l i) (joinN ((stA l i).N (wkn l i)) ((stA l i).pn (plc l i)))) (wkn l i) (tickN (updN (stA l i).N (wkn l i) (joinN ((stA l i).N (wkn l i)) ((stA l i).pn (plc l i))) (wkn l i)) (wkn l i)) w = _
          rw [hup, if_pos rfl]
          unfold updN
          by_cases e : w = wkn l i
          · rw [if_pos e, if_pos e]
          · rw [if_neg e, if_neg e, if_neg e]
        · show updI (stA l i).pn (plc l i) (updN (stA l i).N (wkn l i) (joinN ((stA l i).N (wkn l i)) ((stA l i).pn (plc l i))) (wkn l i)) p = _
          rw [hup]
          unfold updI
          simp
      rw [if_neg k2]
      have hno : ¬ (kd l i = 0 ∨ kd l i = 1 ∨ kd l i = 2) := fun e => e.elim k0 (fun e => e.elim k1 k2)
      by_cases k3 : kd l i = 3
      · rw [if_pos k3]
        exact ih.same hlen hv ht hno rfl rfl
      rw [if_neg k3]
      by_cases k4 : kd l i = 4
      · rw [if_pos k4]
        exact ih.same hlen hv ht hno rfl rfl
      rw [if_neg k4]
      exact ih.same hlen hv ht hno rfl rfl

end Go.Proofs.Ytabcnmpnjnegdaa
