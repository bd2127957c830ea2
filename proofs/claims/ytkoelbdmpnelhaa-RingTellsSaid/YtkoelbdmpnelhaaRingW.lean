/- Words of a ring: what is read of them, and what is put into them; plain mathematics. -/
import Derived.Test.YtkoelbdmpnelhaaRingDo
namespace Go.Proofs.Ytkoelbdmpnelhaa
open Go.RowKit

def NW (ws : List Int) : Int → Int := fun s => (atW ws s).1
def PW (ws : List Int) : Int → Int := fun s => (atW ws s).2
/-- Numbers of 64 bits. -/
def U64L (ws : List Int) : Prop := ∀ x ∈ ws, 0 ≤ x ∧ x ≤ 18446744073709551615
def putW (ws : List Int) (s n p : Int) : List Int := if (0 ≤ s ∧ s < ws.length) ∧ (ringS n p).2 = 0 then ws.set s.toNat (ringS n p).1 else ws
abbrev OpT := Int × Int × Int
def doW (ws : List Int) (l : List OpT) : List Int := l.foldl (fun u o => putW u o.1 o.2.1 o.2.2) ws
def foreignB (x : Int) : Bool := (ringD x).2.2 != 0
def chkW (ws : List Int) : Bool := decide (1 ≤ ws.length ∧ ws.length ≤ 4097) && (!(ws.any foreignB) && wholeB (NW ws) (PW ws) ws.length)
def lstW (ws : List Int) : List Int := lst (NW ws)
def joinsW (ws : List Int) (s : Int) : List OpT :=
  if s ≤ 0 ∨ ¬ s < ws.length ∨ 0 ≤ NW ws s ∨ NW ws 0 < 0 then [] else
    if NW ws 0 = 0 then [(s, 0, 0), (0, s, s)] else [(s, NW ws 0, 0), (NW ws 0, NW ws (NW ws 0), s), (0, s, PW ws 0)]
def cutsW (ws : List Int) (s : Int) : List OpT :=
  if s ≤ 0 ∨ NW ws s < 0 ∨ PW ws s < 0 then [] else
    if NW ws s = PW ws s then [(PW ws s, NW ws s, NW ws s), (s, -1, -1)] else [(PW ws s, NW ws s, PW ws (PW ws s)), (NW ws s, NW ws (NW ws s), PW ws s), (s, -1, -1)]
def lockNP (ws : List Int) (s : Int) : Int × Int := if NW ws s < 0 then (NW ws 0, -1) else (NW ws s, PW ws s)
def locksL (s n p : Int) : List Int := ((List.range (max (max n p) s + 1).toNat).map fun (i : Nat) => (i : Int)).filter fun i => decide (i = 0 ∨ i = s ∨ i = n ∨ i = p)
def locksW (ws : List Int) (s : Int) : List Int := if s ≤ 0 ∨ ¬ s < ws.length then [] else locksL s (lockNP ws s).1 (lockNP ws s).2

theorem ringD_bnd {x : Int} (h : 0 ≤ x) : (-1 ≤ (ringD x).1 ∧ (ringD x).1 ≤ 4096) ∧ -1 ≤ (ringD x).2.1 ∧ (ringD x).2.1 ≤ 4096 := by
  unfold ringD
  by_cases e : 4097 < x % 8192 ∨ 4097 < x / 8192
  · rw [if_pos e]; decide
  · rw [if_neg e]
    have := Int.ediv_nonneg h (show (0 : Int) ≤ 8192 by decide)
    simp only
    omega
theorem atW_out {ws : List Int} {s : Int} (h : ¬ (0 ≤ s ∧ s < ws.length)) : atW ws s = (-1, -1) := by unfold atW; rw [if_neg h]
theorem atW_in {ws : List Int} {k : Nat} {x : Int} (h : ws[k]? = some x) : atW ws (k : Int) = if (ringD x).2.2 = 0 then ((ringD x).1, (ringD x).2.1) else (-1, -1) := by
  have hk := (List.getElem?_eq_some_iff.1 h).1
  unfold atW
  rw [if_pos ⟨by omega, by omega⟩]
  simp [List.getD_eq_getElem?_getD, h]
theorem bndW {ws : List Int} (hw : U64L ws) : Bnd (NW ws) (PW ws) ws.length := by
  have key : ∀ a, (-1 ≤ (atW ws a).1 ∧ (atW ws a).1 ≤ 4096) ∧ -1 ≤ (atW ws a).2 ∧ (atW ws a).2 ≤ 4096 := fun a => by
    by_cases h : 0 ≤ a ∧ a < ws.length
    · obtain ⟨k, rfl⟩ : ∃ k : Nat, a = (k : Int) := ⟨a.toNat, by omega⟩
      have hk : k < ws.length := by omega
      rw [atW_in (List.getElem?_eq_getElem hk)]
      have := ringD_bnd (hw _ (List.getElem_mem hk)).1
      split
      · exact this
      · decide
    · rw [atW_out h]; decide
  exact ⟨fun a => (key a).1, fun a => (key a).2, fun a h => by unfold NW PW; rw [atW_out h]; exact ⟨rfl, rfl⟩⟩
theorem ringS_in {n p : Int} (hn : -1 ≤ n ∧ n ≤ 4096) (hp : -1 ≤ p ∧ p ≤ 4096) : ringS n p = (n + 1 + (p + 1) * 8192, 0) := by unfold ringS; rw [if_neg (by omega)]
theorem ringD_S {n p : Int} (hn : -1 ≤ n ∧ n ≤ 4096) (hp : -1 ≤ p ∧ p ≤ 4096) : ringD (n + 1 + (p + 1) * 8192) = (n, p, 0) := by
  unfold ringD
  have e1 : (n + 1 + (p + 1) * 8192) % 8192 = n + 1 := by omega
  have e2 : (n + 1 + (p + 1) * 8192) / 8192 = p + 1 := by omega
  rw [e1, e2, if_neg (by omega)]
  congr 1
  · omega
  · congr 1; omega
theorem putW_len (ws : List Int) (s n p : Int) : (putW ws s n p).length = ws.length := by unfold putW; split <;> simp
theorem ringS_u64 (n p : Int) : 0 ≤ (ringS n p).1 ∧ (ringS n p).1 ≤ 18446744073709551615 := by
  unfold ringS
  split
  · decide
  · simp only; omega
theorem putW_u64 {ws : List Int} (hw : U64L ws) (s n p : Int) : U64L (putW ws s n p) := by
  unfold putW
  split
  · intro x hx
    rcases List.mem_or_eq_of_mem_set hx with e | e
    · exact hw x e
    · rw [e]; exact ringS_u64 n p
  · exact hw
theorem atW_put {ws : List Int} {s n p : Int} (hs : 0 ≤ s ∧ s < ws.length) (hn : -1 ≤ n ∧ n ≤ 4096) (hp : -1 ≤ p ∧ p ≤ 4096) (a : Int) : atW (putW ws s n p) a = if a = s then (n, p) else atW ws a := by
  unfold putW
  rw [ringS_in hn hp, if_pos ⟨hs, rfl⟩]
  by_cases ha : 0 ≤ a ∧ a < ws.length
  · obtain ⟨k, rfl⟩ : ∃ k : Nat, a = (k : Int) := ⟨a.toNat, by omega⟩
    have hk : k < ws.length := by omega
    by_cases e : (k : Int) = s
    · rw [if_pos e]
      have : s.toNat = k := by omega
      rw [this, atW_in (List.getElem?_set_self hk), ringD_S hn hp]
      rfl
    · rw [if_neg e]
      have hne : s.toNat ≠ k := by omega
      have h1 : (ws.set s.toNat (n + 1 + (p + 1) * 8192))[k]? = some ws[k] := by rw [List.getElem?_set_ne hne, List.getElem?_eq_getElem hk]
      rw [atW_in h1, atW_in (List.getElem?_eq_getElem hk)]
  · rw [if_neg (by omega), atW_out ha, atW_out (by simpa using ha)]
theorem NW_put {ws : List Int} {s n p : Int} (hs : 0 ≤ s ∧ s < ws.length) (hn : -1 ≤ n ∧ n ≤ 4096) (hp : -1 ≤ p ∧ p ≤ 4096) : NW (putW ws s n p) = upd (NW ws) s n := by
  funext a
  unfold NW upd
  rw [atW_put hs hn hp]
  split <;> rfl
theorem PW_put {ws : List Int} {s n p : Int} (hs : 0 ≤ s ∧ s < ws.length) (hn : -1 ≤ n ∧ n ≤ 4096) (hp : -1 ≤ p ∧ p ≤ 4096) : PW (putW ws s n p) = upd (PW ws) s p := by
  funext a
  unfold PW upd
  rw [atW_put hs hn hp]
  split <;> rfl
theorem foreign_put {ws : List Int} (h : ws.any foreignB = false) (s n p : Int) : (putW ws s n p).any foreignB = false := by
  unfold putW
  split
  · rename_i hc
    rw [List.any_eq_false] at h ⊢
    intro x hx
    rcases List.mem_or_eq_of_mem_set hx with e | e
    · exact h x e
    · have hr : ¬ (n < -1 ∨ 4096 < n ∨ p < -1 ∨ 4096 < p) := fun hb => by
        have := hc.2
        unfold ringS at this
        rw [if_pos hb] at this
        cases this
      rw [e, ringS_in (by omega) (by omega)]
      unfold foreignB
      rw [ringD_S (by omega) (by omega)]
      simp
  · exact h
theorem doW_len (l : List OpT) : ∀ ws : List Int, (doW ws l).length = ws.length := by
  induction l with
  | nil => intro ws; rfl
  | cons o l ih => intro ws; show (doW (putW ws _ _ _) l).length = _; rw [ih, putW_len]
theorem doW_u64 (l : List OpT) : ∀ ws : List Int, U64L ws → U64L (doW ws l) := by
  induction l with
  | nil => intro ws h; exact h
  | cons o l ih => intro ws h; exact ih _ (putW_u64 h _ _ _)
theorem doW_foreign (l : List OpT) : ∀ ws : List Int, ws.any foreignB = false → (doW ws l).any foreignB = false := by
  induction l with
  | nil => intro ws h; exact h
  | cons o l ih => intro ws h; exact ih _ (foreign_put h _ _ _)
end Go.Proofs.Ytkoelbdmpnelhaa
