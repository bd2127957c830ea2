/- A right ring, in words, stays right behind joins or cuts, and nothing else is lost; plain mathematics. -/
import Derived.Test.YtkoelbdmpnelhaaRingW
namespace Go.Proofs.Ytkoelbdmpnelhaa
open Go.RowKit

section
variable {ws : List Int}
structure Right (ws : List Int) (L : List Int) : Prop where
  u : U64L ws
  one : 1 ≤ ws.length ∧ ws.length ≤ 4097
  own : ws.any foreignB = false
  ring : RingIs (NW ws) (PW ws) ws.length L
theorem Right.of (hu : U64L ws) (h : chkW ws = true) : Right ws (lstW ws) := by
  unfold chkW at h
  simp only [Bool.and_eq_true, decide_eq_true_eq, Bool.not_eq_true'] at h
  exact ⟨hu, h.1, h.2.1, RingIs.of_whole (bndW hu) h.1.1 h.1.2 h.2.2⟩
theorem Right.chk {L : List Int} (h : Right ws L) : chkW ws = true := by
  unfold chkW
  rw [decide_eq_true h.one, h.own, h.ring.whole h.one.1 h.one.2]
  rfl
theorem Right.lst {L : List Int} (h : Right ws L) : lstW ws = L := h.ring.lst h.one.2
theorem Right.behind {L L' : List Int} (h : Right ws L) (l : List OpT) (hr : RingIs (NW (doW ws l)) (PW (doW ws l)) ws.length L') : Right (doW ws l) L' :=
  ⟨doW_u64 l ws h.u, by rw [doW_len]; exact h.one, doW_foreign l ws h.own, by rw [doW_len]; exact hr⟩

/-- What is done, and where; behind each first few the list is as it was, but for the slot. -/
structure Fine (ws : List Int) (s : Int) (ops : List OpT) (rest fin : List Int) : Prop where
  held : ∀ o ∈ ops, o.1 ∈ locksW ws s
  mid : ∀ i, i < ops.length → (lstW (doW ws (ops.take (i + 1)))).filter (fun x => x != s) = rest
  fin : Right (doW ws ops) fin
theorem locks_mem {s : Int} (h1 : 0 < s) (h2 : s < ws.length) {a : Int} (ha : a = 0 ∨ a = s ∨ a = (lockNP ws s).1 ∨ a = (lockNP ws s).2) (h0 : 0 ≤ a) : a ∈ locksW ws s := by
  unfold locksW locksL
  rw [if_neg (by omega)]
  rw [List.mem_filter]
  refine ⟨List.mem_map.2 ⟨a.toNat, List.mem_range.2 ?_, by omega⟩, decide_eq_true ha⟩
  omega
theorem filter_out {l : List Int} {s : Int} (h : s ∉ l) : l.filter (fun x => x != s) = l := by
  rw [List.filter_eq_self]
  intro a ha
  simp only [bne_iff_ne, ne_eq]
  intro e
  exact h (e ▸ ha)

theorem rng_len {x : Int} (hone : 1 ≤ ws.length ∧ ws.length ≤ 4097) (h : 0 ≤ x ∧ x < ws.length) : -1 ≤ x ∧ x ≤ 4096 := by omega

theorem fine_join {L : List Int} {s : Int} (h : Right ws L) (hs : s ∉ L) (h1 : 0 < s) (h2 : s < ws.length) : Fine ws s (joinsW ws s) L (s :: L) := by
  have hs0 : s ∉ 0 :: L := fun e => by
    rcases List.mem_cons.1 e with e | e
    · omega
    · exact hs e
  have ho := h.ring.out s hs0
  have hn0 := h.ring.n0 0 (by simp)
  have hlk : lockNP ws s = (NW ws 0, -1) := by unfold lockNP; rw [if_pos (by omega)]
  have hlen := h.one
  have hS : 0 ≤ s ∧ s < (ws.length : Int) := ⟨by omega, h2⟩
  have hZ : 0 ≤ (0 : Int) ∧ (0 : Int) < (ws.length : Int) := by omega
  have mem : ∀ a : Int, (a = 0 ∨ a = s ∨ a = NW ws 0) → 0 ≤ a → a ∈ locksW ws s := fun a ha h0 => locks_mem h1 h2 (by rw [hlk]; omega) h0
  cases L with
  | nil =>
    obtain ⟨e1, e2, hr⟩ := h.ring.joinE h1 h2
    have hops : joinsW ws s = [(s, 0, 0), (0, s, s)] := by
      unfold joinsW
      rw [if_neg (by omega), if_pos e1]
    rw [hops]
    have r0 := rng_len hlen hS
    have z0 : -1 ≤ (0 : Int) ∧ (0 : Int) ≤ 4096 := by decide
    have p1 : NW (putW ws s 0 0) = upd (NW ws) s 0 := NW_put hS z0 z0
    have q1 : PW (putW ws s 0 0) = upd (PW ws) s 0 := PW_put hS z0 z0
    have hZ' : 0 ≤ (0 : Int) ∧ (0 : Int) < ((putW ws s 0 0).length : Int) := by rw [putW_len]; exact hZ
    have p2 : NW (putW (putW ws s 0 0) 0 s s) = upd (upd (NW ws) s 0) 0 s := by rw [NW_put hZ' r0 r0, p1]
    have q2 : PW (putW (putW ws s 0 0) 0 s s) = upd (upd (PW ws) s 0) 0 s := by rw [PW_put hZ' r0 r0, q1]
    have hfin : Right (doW ws [(s, 0, 0), (0, s, s)]) [s] := h.behind _ (by
      show RingIs (NW (putW (putW ws s 0 0) 0 s s)) (PW (putW (putW ws s 0 0) 0 s s)) _ _
      rw [p2, q2]; exact hr)
    refine ⟨fun o ho => ?_, fun i hi => ?_, hfin⟩
    · simp only [List.mem_cons, List.not_mem_nil, or_false] at ho
      rcases ho with rfl | rfl
      · exact mem s (by simp) (by omega)
      · exact mem 0 (by simp) (by omega)
    · simp only [List.length_cons, List.length_nil] at hi
      rcases (show i = 0 ∨ i = 1 by omega) with rfl | rfl
      · show (lst (NW (putW ws s 0 0))).filter _ = _
        rw [p1, h.ring.join1 hlen.2 hs0]
        rfl
      · show (lstW (doW ws [(s, 0, 0), (0, s, s)])).filter _ = _
        rw [hfin.lst]
        simp
  | cons b l =>
    obtain ⟨e1, b0, bl, bs, hr⟩ := h.ring.joinC hs0 h1 h2
    have bnd := bndW h.u
    have hops : joinsW ws s = [(s, b, 0), (b, NW ws b, s), (0, s, PW ws 0)] := by
      unfold joinsW
      rw [if_neg (by omega), if_neg (by omega), e1]
    rw [hops]
    have hB : 0 ≤ b ∧ b < (ws.length : Int) := ⟨by omega, bl⟩
    have r0 := rng_len hlen hS
    have rb := rng_len hlen hB
    have z0 : -1 ≤ (0 : Int) ∧ (0 : Int) ≤ 4096 := by decide
    have p1 : NW (putW ws s b 0) = upd (NW ws) s b := NW_put hS rb z0
    have q1 : PW (putW ws s b 0) = upd (PW ws) s 0 := PW_put hS rb z0
    have hB' : 0 ≤ b ∧ b < ((putW ws s b 0).length : Int) := by rw [putW_len]; exact hB
    have p2 : NW (putW (putW ws s b 0) b (NW ws b) s) = upd (NW ws) s b := by rw [NW_put hB' (bnd.n0 b) r0, p1, joinC2 bs]
    have q2 : PW (putW (putW ws s b 0) b (NW ws b) s) = upd (upd (PW ws) s 0) b s := by rw [PW_put hB' (bnd.n0 b) r0, q1]
    have hZ' : 0 ≤ (0 : Int) ∧ (0 : Int) < ((putW (putW ws s b 0) b (NW ws b) s).length : Int) := by rw [putW_len, putW_len]; exact hZ
    have p3 : NW (putW (putW (putW ws s b 0) b (NW ws b) s) 0 s (PW ws 0)) = upd (upd (NW ws) s b) 0 s := by rw [NW_put hZ' r0 (bnd.p0 0), p2]
    have q3 : PW (putW (putW (putW ws s b 0) b (NW ws b) s) 0 s (PW ws 0)) = upd (upd (PW ws) s 0) b s := by
      rw [PW_put hZ' r0 (bnd.p0 0), q2]
      have : upd (upd (PW ws) s 0) b s 0 = PW ws 0 := by rw [upd_ne _ _ (by omega : (0 : Int) ≠ b), upd_ne _ _ (by omega : (0 : Int) ≠ s)]
      rw [← this, upd_same]
    have hfin : Right (doW ws [(s, b, 0), (b, NW ws b, s), (0, s, PW ws 0)]) (s :: b :: l) := h.behind _ (by
      show RingIs (NW (putW (putW (putW ws s b 0) b (NW ws b) s) 0 s (PW ws 0))) (PW (putW (putW (putW ws s b 0) b (NW ws b) s) 0 s (PW ws 0))) _ _
      rw [p3, q3]; exact hr)
    refine ⟨fun o ho => ?_, fun i hi => ?_, hfin⟩
    · simp only [List.mem_cons, List.not_mem_nil, or_false] at ho
      rcases ho with rfl | rfl | rfl
      · exact mem s (by simp) (by omega)
      · exact mem b (by simp [e1]) (by omega)
      · exact mem 0 (by simp) (by omega)
    · simp only [List.length_cons, List.length_nil] at hi
      have h3 := h.ring.join1 hlen.2 hs0
      rcases (show i = 0 ∨ i = 1 ∨ i = 2 by omega) with rfl | rfl | rfl
      · show (lst (NW (putW ws s b 0))).filter _ = _
        rw [p1, h3, filter_out hs]
      · show (lst (NW (putW (putW ws s b 0) b (NW ws b) s))).filter _ = _
        rw [p2, h3, filter_out hs]
      · show (lstW (doW ws [(s, b, 0), (b, NW ws b, s), (0, s, PW ws 0)])).filter _ = _
        rw [hfin.lst, List.filter_cons_of_neg (by simp), filter_out hs]

theorem fine_cut {L : List Int} {s : Int} (h : Right ws L) (hs : s ∈ L) : Fine ws s (cutsW ws s) (L.filter fun x => x != s) (L.filter fun x => x != s) := by
  obtain ⟨l1, l2, rfl⟩ := List.append_of_mem hs
  have hlt := h.ring.lt s hs
  have hlen := h.one
  obtain ⟨q, r, eN, eP, hq0, hq1, hr0, hr1, hsq, hsr, hqr, L1, L2, L3, hR⟩ := h.ring.cut hlen.2
  have bnd := bndW h.u
  have hnd := h.ring.nd
  rw [List.nodup_append] at hnd
  have hs1 : s ∉ l1 := fun e => hnd.2.2 s e s (by simp) rfl
  have hs2 : s ∉ l2 := (List.nodup_cons.1 hnd.2.1).1
  have hfl : (l1 ++ s :: l2).filter (fun x => x != s) = l1 ++ l2 := by
    rw [List.filter_append, List.filter_cons_of_neg (by simp), filter_out hs1, filter_out hs2]
  have hs12 : s ∉ l1 ++ l2 := by simp [hs1, hs2]
  rw [hfl]
  have hlk : lockNP ws s = (r, q) := by unfold lockNP; rw [if_neg (by omega), eN, eP]
  have mem : ∀ a : Int, (a = 0 ∨ a = s ∨ a = r ∨ a = q) → 0 ≤ a → a ∈ locksW ws s := fun a ha h0 => locks_mem hlt.1 hlt.2 (by rw [hlk]; exact ha) h0
  have hQ : 0 ≤ q ∧ q < (ws.length : Int) := ⟨hq0, hq1⟩
  have hRr : 0 ≤ r ∧ r < (ws.length : Int) := ⟨hr0, hr1⟩
  have hS : 0 ≤ s ∧ s < (ws.length : Int) := ⟨by omega, hlt.2⟩
  have rq := rng_len hlen hQ
  have rr := rng_len hlen hRr
  have m1 : -1 ≤ (-1 : Int) ∧ (-1 : Int) ≤ 4096 := by decide
  by_cases e : r = q
  · obtain ⟨rfl, rfl, rfl⟩ := hqr e.symm
    subst e
    have hops : cutsW ws s = [(0, 0, 0), (s, -1, -1)] := by
      unfold cutsW
      rw [if_neg (by omega), if_pos (by omega), eN, eP]
    rw [hops]
    have z0 : -1 ≤ (0 : Int) ∧ (0 : Int) ≤ 4096 := by decide
    have p1 : NW (putW ws 0 0 0) = upd (NW ws) 0 0 := NW_put hQ z0 z0
    have q1 : PW (putW ws 0 0 0) = upd (PW ws) 0 0 := PW_put hQ z0 z0
    have hS' : 0 ≤ s ∧ s < ((putW ws 0 0 0).length : Int) := by rw [putW_len]; exact hS
    have p2 : NW (putW (putW ws 0 0 0) s (-1) (-1)) = upd (upd (NW ws) 0 0) s (-1) := by rw [NW_put hS' m1 m1, p1]
    have q2 : PW (putW (putW ws 0 0 0) s (-1) (-1)) = upd (upd (PW ws) 0 0) s (-1) := by rw [PW_put hS' m1 m1, q1]
    have hfin : Right (doW ws [(0, 0, 0), (s, -1, -1)]) ([] ++ []) := h.behind _ (by
      show RingIs (NW (putW (putW ws 0 0 0) s (-1) (-1))) (PW (putW (putW ws 0 0 0) s (-1) (-1))) _ _
      rw [p2, q2]; exact hR)
    refine ⟨fun o ho => ?_, fun i hi => ?_, hfin⟩
    · simp only [List.mem_cons, List.not_mem_nil, or_false] at ho
      rcases ho with rfl | rfl
      · exact mem 0 (by simp) (by omega)
      · exact mem s (by simp) (by omega)
    · simp only [List.length_cons, List.length_nil] at hi
      rcases (show i = 0 ∨ i = 1 by omega) with rfl | rfl
      · show (lst (NW (putW ws 0 0 0))).filter _ = _
        rw [p1, L1]
        rfl
      · show (lstW (doW ws [(0, 0, 0), (s, -1, -1)])).filter _ = _
        rw [hfin.lst]
        rfl
  · have hops : cutsW ws s = [(q, r, PW ws q), (r, NW ws r, q), (s, -1, -1)] := by
      unfold cutsW
      rw [if_neg (by omega), if_neg (by omega), eN, eP]
    rw [hops]
    have p1 : NW (putW ws q r (PW ws q)) = upd (NW ws) q r := NW_put hQ rr (bnd.p0 q)
    have q1 : PW (putW ws q r (PW ws q)) = PW ws := by rw [PW_put hQ rr (bnd.p0 q), upd_same]
    have hR' : 0 ≤ r ∧ r < ((putW ws q r (PW ws q)).length : Int) := by rw [putW_len]; exact hRr
    have p2 : NW (putW (putW ws q r (PW ws q)) r (NW ws r) q) = upd (NW ws) q r := by rw [NW_put hR' (bnd.n0 r) rq, p1, L2 e]
    have q2 : PW (putW (putW ws q r (PW ws q)) r (NW ws r) q) = upd (PW ws) r q := by rw [PW_put hR' (bnd.n0 r) rq, q1]
    have hS' : 0 ≤ s ∧ s < ((putW (putW ws q r (PW ws q)) r (NW ws r) q).length : Int) := by rw [putW_len, putW_len]; exact hS
    have p3 : NW (putW (putW (putW ws q r (PW ws q)) r (NW ws r) q) s (-1) (-1)) = upd (upd (NW ws) q r) s (-1) := by rw [NW_put hS' m1 m1, p2]
    have q3 : PW (putW (putW (putW ws q r (PW ws q)) r (NW ws r) q) s (-1) (-1)) = upd (upd (PW ws) r q) s (-1) := by rw [PW_put hS' m1 m1, q2]
    have hfin : Right (doW ws [(q, r, PW ws q), (r, NW ws r, q), (s, -1, -1)]) (l1 ++ l2) := h.behind _ (by
      show RingIs (NW (putW (putW (putW ws q r (PW ws q)) r (NW ws r) q) s (-1) (-1))) (PW (putW (putW (putW ws q r (PW ws q)) r (NW ws r) q) s (-1) (-1))) _ _
      rw [p3, q3]; exact hR)
    refine ⟨fun o ho => ?_, fun i hi => ?_, hfin⟩
    · simp only [List.mem_cons, List.not_mem_nil, or_false] at ho
      rcases ho with rfl | rfl | rfl
      · exact mem q (by simp) (by omega)
      · exact mem r (by simp) (by omega)
      · exact mem s (by simp) (by omega)
    · simp only [List.length_cons, List.length_nil] at hi
      rcases (show i = 0 ∨ i = 1 ∨ i = 2 by omega) with rfl | rfl | rfl
      · show (lst (NW (putW ws q r (PW ws q)))).filter _ = _
        rw [p1, L1, filter_out hs12]
      · show (lst (NW (putW (putW ws q r (PW ws q)) r (NW ws r) q))).filter _ = _
        rw [p2, L1, filter_out hs12]
      · show (lstW (doW ws [(q, r, PW ws q), (r, NW ws r, q), (s, -1, -1)])).filter _ = _
        rw [hfin.lst, filter_out hs12]

/-- The operations of a slot: those by which it goes, if it is in, else those by which it joins. -/
def opsW (ws : List Int) (s : Int) : List OpT := if s ∈ lstW ws then cutsW ws s else joinsW ws s
def finW (ws : List Int) (s : Int) : List Int := if s ∈ lstW ws then (lstW ws).filter (fun x => x != s) else s :: lstW ws
theorem fine_any (hu : U64L ws) (h : chkW ws = true) {s : Int} (h1 : 0 < s) (h2 : s < ws.length) : Fine ws s (opsW ws s) ((lstW ws).filter fun x => x != s) (finW ws s) := by
  have hR := Right.of hu h
  unfold opsW finW
  by_cases e : s ∈ lstW ws
  · rw [if_pos e, if_pos e]
    exact fine_cut hR e
  · rw [if_neg e, if_neg e, filter_out e]
    exact fine_join hR e h1 h2
theorem ops_none (hu : U64L ws) (h : chkW ws = true) {s : Int} (hs : ¬ (0 < s ∧ s < ws.length)) : opsW ws s = [] ∧ locksW ws s = [] := by
  have hR := Right.of hu h
  have e : s ∉ lstW ws := fun e => by have := hR.ring.lt s e; omega
  unfold opsW joinsW locksW
  rw [if_neg e, if_pos (by omega), if_pos (by omega)]
  exact ⟨rfl, rfl⟩
end
end Go.Proofs.Ytkoelbdmpnelhaa
