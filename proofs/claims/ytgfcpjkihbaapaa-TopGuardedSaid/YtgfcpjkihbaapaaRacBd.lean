/- No number of a watch is above what was stored (plain). -/
import Derived.Test.YtgfcpjkihbaapaaRacDo
namespace Go.Proofs.Ytgfcpjkihbaapaa

/-- No number is above c. -/
def bdA (a : AX) (c : Int) : Prop := (∀ k, IsNum (a.N k) ∧ ∀ j, (a.N k).getD j 0 ≤ c) ∧ ∀ p, IsNum (a.pn p) ∧ ∀ j, (a.pn p).getD j 0 ≤ c
theorem zeroN_at (j : Nat) : zeroN.getD j 0 = 0 := by
  rw [zeroN, List.getD_eq_getElem?_getD, List.getElem?_replicate]
  split <;> rfl
theorem tick_at {N : List Int} (h : IsNum N) (k : Nat) (j : Nat) : N.getD j 0 ≤ (tickN N k).getD j 0 ∧ (tickN N k).getD j 0 ≤ N.getD j 0 + 1 := by
  unfold tickN
  split
  · rename_i hc
    rw [Int.toNat_natCast, set_getD _ _ _ _ (by rw [h.1]; omega)]
    by_cases e : k = j
    · subst e
      rw [if_pos rfl]
      omega
    · rw [if_neg e]
      omega
  · omega
theorem tick_self {N : List Int} (h : IsNum N) {k : Nat} (hk : k < 65) (hs : N.getD k 0 < 4611686018427387904) : (tickN N k).getD k 0 = N.getD k 0 + 1 := by
  rw [tickN, Int.toNat_natCast, if_pos ⟨by omega, hs⟩, set_getD _ _ _ _ (by rw [h.1]; exact hk), if_pos rfl]
theorem join_at {M N : List Int} (hM : IsNum M) (hN : IsNum N) (j : Nat) : (joinN M N).getD j 0 = max (M.getD j 0) (N.getD j 0) := by
  rcases Nat.lt_or_ge j 65 with h | h
  · exact joinN_at _ _ h
  · rw [(joinN_num hM).out h, hM.out h, hN.out h]
    rfl
theorem bd_new : bdA newA 1 := by
  refine ⟨fun k => ?_, fun p => ⟨zeroN_num, fun j => by show zeroN.getD j 0 ≤ 1; rw [zeroN_at]; decide⟩⟩
  show IsNum (if k < 65 then tickN zeroN k else zeroN) ∧ ∀ j, (if k < 65 then tickN zeroN k else zeroN).getD j 0 ≤ 1
  split
  · exact ⟨tickN_num zeroN_num _, fun j => by have := (tick_at zeroN_num k j).2; rw [zeroN_at] at this; omega⟩
  · exact ⟨zeroN_num, fun j => by rw [zeroN_at]; decide⟩
theorem bd_load {a : AX} {c : Int} (h : bdA a c) (k : Nat) (p : Int) : bdA (loadA a k p) c := by
  refine ⟨fun j => ?_, h.2⟩
  show IsNum (updN a.N k (joinN (a.N k) (a.pn p)) j) ∧ ∀ i, (updN a.N k (joinN (a.N k) (a.pn p)) j).getD i 0 ≤ c
  unfold updN
  by_cases e : j = k
  · rw [if_pos e]
    exact ⟨joinN_num (h.1 k).1, fun i => by rw [join_at (h.1 k).1 (h.2 p).1]; have := (h.1 k).2 i; have := (h.2 p).2 i; omega⟩
  · rw [if_neg e]
    exact h.1 j
theorem bd_store {a : AX} {c : Int} (h : bdA a c) (k : Nat) (p : Int) : bdA (storeA a k p) (c + 1) := by
  refine ⟨fun j => ?_, fun q => ?_⟩
  · show IsNum (updN a.N k (tickN (a.N k) k) j) ∧ ∀ i, (updN a.N k (tickN (a.N k) k) j).getD i 0 ≤ c + 1
    unfold updN
    by_cases e : j = k
    · rw [if_pos e]
      exact ⟨tickN_num (h.1 k).1 _, fun i => by have := (tick_at (h.1 k).1 k i).2; have := (h.1 k).2 i; omega⟩
    · rw [if_neg e]
      exact ⟨(h.1 j).1, fun i => by have := (h.1 j).2 i; omega⟩
  · show IsNum (updI a.pn p (a.N k) q) ∧ ∀ i, (updI a.pn p (a.N k) q).getD i 0 ≤ c + 1
    unfold updI
    by_cases e : q = p
    · rw [if_pos e]
      exact ⟨(h.1 k).1, fun i => by have := (h.1 k).2 i; omega⟩
    · rw [if_neg e]
      exact ⟨(h.2 q).1, fun i => by have := (h.2 q).2 i; omega⟩
theorem store_self {a : AX} {c : Int} (h : bdA a c) (hc : c < 1000) {k : Nat} (hk : k < 65) (p : Int) : ((storeA a k p).N k).getD k 0 = (a.N k).getD k 0 + 1 := by
  show (updN a.N k (tickN (a.N k) k) k).getD k 0 = _
  rw [updN, if_pos rfl]
  exact tick_self (h.1 k).1 hk (by have := (h.1 k).2 k; omega)
theorem store_other {a : AX} {k j : Nat} (hne : j ≠ k) (p : Int) : (storeA a k p).N j = a.N j := if_neg hne
theorem load_more {a : AX} {c : Int} (h : bdA a c) (k j : Nat) (p : Int) (i : Nat) : (a.N j).getD i 0 ≤ ((loadA a k p).N j).getD i 0 := by
  show _ ≤ (updN a.N k (joinN (a.N k) (a.pn p)) j).getD i 0
  unfold updN
  by_cases e : j = k
  · rw [if_pos e, e, join_at (h.1 k).1 (h.2 p).1]
    omega
  · rw [if_neg e]
    exact Int.le_refl _
theorem store_more {a : AX} {c : Int} (h : bdA a c) (k j : Nat) (p : Int) (i : Nat) : (a.N j).getD i 0 ≤ ((storeA a k p).N j).getD i 0 := by
  show _ ≤ (updN a.N k (tickN (a.N k) k) j).getD i 0
  unfold updN
  by_cases e : j = k
  · rw [if_pos e, e]
    exact (tick_at (h.1 k).1 k i).1
  · rw [if_neg e]
    exact Int.le_refl _

end Go.Proofs.Ytgfcpjkihbaapaa
