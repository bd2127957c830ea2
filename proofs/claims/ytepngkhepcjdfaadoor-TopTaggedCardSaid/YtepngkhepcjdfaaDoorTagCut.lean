/- The plain side of parts: where the first plus stands in what is behind a place. -/
import Derived.Test.YtepngkhepcjdfaaDoorTagParts
namespace Go.Proofs.YtepngkhepcjdfaaDoor
open Go.RowKit

theorem first_at (s : ByteArray) (k : Nat) (hk : k < s.size) (h : s[k] = 43) (hno : ∀ j (hj : j < k), s[j]'(by omega) ≠ 43) : firstIdx s 43 = k := by
  unfold firstIdx
  have e : (List.range s.size).find? (fun i => s[i]! == 43) = some k := by
    rw [List.find?_range_eq_some]
    refine ⟨?_, List.mem_range.2 hk, fun j hj => ?_⟩
    · rw [getElem!_pos s k hk, h]; rfl
    · have := hno j hj
      rw [getElem!_pos s j (by omega)]
      simpa using this
  rw [e]

theorem first_no (s : ByteArray) (hno : ∀ j (hj : j < s.size), s[j] ≠ 43) : firstIdx s 43 = -1 := by
  unfold firstIdx
  have e : (List.range s.size).find? (fun i => s[i]! == 43) = none := by
    rw [List.find?_eq_none]
    intro j hj
    have hj' := List.mem_range.1 hj
    rw [getElem!_pos s j hj']
    simpa using hno j hj'
  rw [e]

theorem ext_size (s : ByteArray) (f : Nat) : (s.extract f s.size).size = s.size - f := by simp
theorem ext_get (s : ByteArray) (f j : Nat) (h : j < (s.extract f s.size).size) : (s.extract f s.size)[j] = s[f + j]'(by rw [ext_size] at h; omega) := by
  rw [ByteArray.getElem_extract]
theorem ext_ext (s : ByteArray) (f a b : Nat) (h : f + b ≤ s.size) : (s.extract f s.size).extract a b = s.extract (f + a) (f + b) := by
  rw [ByteArray.extract_extract, Nat.min_eq_left h]

theorem cut_plus (s : ByteArray) (f k m : Nat) (hf : f ≤ k) (hk : k < s.size) (h : s[k] = 43) (hno : ∀ j (hj : j < k), f ≤ j → s[j]'(by omega) ≠ 43) :
    cutAll (m + 1) (s.extract f s.size) = s.extract f k :: cutAll m (s.extract (k + 1) s.size) := by
  have hs := ext_size s f
  have e : firstIdx (s.extract f s.size) 43 = ((k - f : Nat) : Int) := by
    refine first_at _ _ (by omega) ?_ fun j hj => ?_
    · rw [ext_get]
      simpa [show f + (k - f) = k by omega] using h
    · rw [ext_get]
      exact hno _ (by omega) (by omega)
  rw [cutAll_step _ _ _ e, ext_ext s f 0 _ (by omega), hs, ext_ext s f _ _ (by omega)]
  rw [show f + 0 = f by omega, show f + (k - f) = k by omega, show f + (k - f + 1) = k + 1 by omega, show f + (s.size - f) = s.size by omega]
theorem cut_end (s : ByteArray) (f m : Nat) (hno : ∀ j (hj : j < s.size), f ≤ j → s[j] ≠ 43) : cutAll m (s.extract f s.size) = [s.extract f s.size] := by
  refine cutAll_last m _ (first_no _ fun j hj => ?_)
  rw [ext_get]
  exact hno _ (by rw [ext_size] at hj; omega) (by omega)

end Go.Proofs.YtepngkhepcjdfaaDoor
