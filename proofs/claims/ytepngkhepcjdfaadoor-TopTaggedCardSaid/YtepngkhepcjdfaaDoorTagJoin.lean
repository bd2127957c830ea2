/- The plain side of Text: names joined by a plus, and how long that may be. -/
import Derived.Test.YtepngkhepcjdfaaDoorTagPrs
import Derived.Test.YtepngkhepcjdfaaDoorTagRows
import Derived.Lib.Join
namespace Go.Proofs.YtepngkhepcjdfaaDoor
open Go.RowKit

/-- Texts joined by a plus. -/
def joinB : List ByteArray → ByteArray
  | [] => ByteArray.mk #[]
  | [x] => x
  | x :: y :: r => x ++ (ByteArray.mk #[43] ++ joinB (y :: r))

theorem bytes_ext {a b : ByteArray} (h : a.data.toList = b.data.toList) : a = b := ByteArray.ext (Array.toList_inj.1 h)
theorem bytes_app (a b : ByteArray) : (a ++ b).data.toList = a.data.toList ++ b.data.toList := by
  rw [ByteArray.data_append, Array.toList_append]
theorem joinTail_cons (sep x : List UInt8) (r : List (List UInt8)) : Lib.joinTail sep (x :: r) = sep ++ (x ++ Lib.joinTail sep r) := by
  unfold Lib.joinTail
  rw [List.map_cons, List.flatten_cons, List.append_assoc]
theorem joinB_data : ∀ L : List ByteArray, (joinB L).data.toList = Lib.join (L.map (·.data.toList)) [43]
  | [] => rfl
  | [x] => (Lib.join_one _ _).symm
  | x :: y :: r => by
    rw [joinB, bytes_app, bytes_app, joinB_data (y :: r), List.map_cons, List.map_cons, Lib.join_cons, Lib.join_cons, List.map_cons, joinTail_cons]
theorem joinB_eq (L : List ByteArray) : (ByteArray.mk (Lib.join (L.map (·.data.toList)) [43]).toArray) = joinB L := bytes_ext (by rw [joinB_data])

theorem joinB_size : ∀ L : List ByteArray, (∀ x ∈ L, x.size ≤ 32) → (joinB L).size ≤ 33 * L.length
  | [], _ => Nat.le_refl 0
  | [x], h => by
    have := h x (by simp)
    simp only [joinB, List.length_cons, List.length_nil]
    omega
  | x :: y :: r, h => by
    have h1 := h x (by simp)
    have h2 := joinB_size (y :: r) fun z hz => h z (List.mem_cons_of_mem _ hz)
    have h3 : (ByteArray.mk #[43]).size = 1 := rfl
    rw [joinB, ByteArray.size_append, ByteArray.size_append, h3]
    simp only [List.length_cons] at *
    omega

/-- One name more behind others. -/
theorem joinB_snoc : ∀ (L : List ByteArray) (x : ByteArray), L ≠ [] → joinB (L ++ [x]) = joinB L ++ ByteArray.mk #[43] ++ x
  | [], _, h => (h rfl).elim
  | [a], x, _ => by
    show a ++ (ByteArray.mk #[43] ++ x) = _
    rw [joinB, ByteArray.append_assoc]
  | a :: b :: r, x, _ => by
    have ih := joinB_snoc (b :: r) x (by simp)
    show a ++ (ByteArray.mk #[43] ++ joinB (b :: r ++ [x])) = _
    rw [ih, joinB]
    simp only [ByteArray.append_assoc]

theorem nameAt_mem {zs : List ByteArray} {m : Int} (h0 : 0 ≤ m) (h : m < (zs.length : Int)) : nameAt zs m ∈ zs := by
  unfold nameAt
  rw [List.getD_eq_getElem?_getD, List.getElem?_eq_getElem (by omega : m.toNat < zs.length)]
  exact List.getElem_mem _
theorem chk_names {zs : List ByteArray} (h : chkT zs = 0) : ∀ z ∈ zs, nameOk z = true := by
  unfold chkT at h
  split at h
  · cases h
  · split at h
    · rename_i h2
      exact List.all_eq_true.1 h2
    · cases h
theorem name_size {z : ByteArray} (h : nameOk z = true) : 1 ≤ z.size ∧ z.size ≤ 32 := by
  unfold nameOk at h
  simp only [Bool.and_eq_true, decide_eq_true_eq] at h
  exact ⟨h.1.1, h.1.2⟩
theorem nms_ways (zs : List ByteArray) (x : Int) : nmsL zs x = [] ∨ (chkT zs = 0 ∧ nmsW zs x = 0 ∧ (∀ m ∈ bitsL x, m < (zs.length : Int)) ∧ nmsL zs x = (bitsL x).map (nameAt zs)) := by
  by_cases ht : chkT zs = 0
  · by_cases hall : ∀ m ∈ bitsL x, m < (zs.length : Int)
    · obtain ⟨h1, h2⟩ := nms_ok zs x ht hall
      exact .inr ⟨ht, h1, hall, h2⟩
    · refine .inl (if_neg fun h => ?_)
      unfold nmsW at h
      rw [if_pos ht, if_neg hall] at h
      cases h
  · exact .inl (nms_err zs x ht).2
theorem nms_small (zs : List ByteArray) (x : Int) : (∀ p ∈ nmsL zs x, nameOk p = true) ∧ (nmsL zs x).length ≤ 64 := by
  rcases nms_ways zs x with h | ⟨ht, _, hall, h⟩
  · rw [h]; simp
  · rw [h, List.length_map]
    refine ⟨fun p hp => ?_, bitsL_len x⟩
    obtain ⟨m, hm, rfl⟩ := List.mem_map.1 hp
    have hr := one_has_lt ((bitsL_mem x m).1 hm)
    exact chk_names ht _ (nameAt_mem hr.1 (hall m hm))
theorem nms_join (zs : List ByteArray) (x : Int) : (Lib.join ((nmsL zs x).map (·.data.toList)) [43]).length ≤ 140737488355328 := by
  have h := nms_small zs x
  have h2 := joinB_size (nmsL zs x) fun p hp => (name_size (h.1 p hp)).2
  rw [← joinB_data]
  have e : (joinB (nmsL zs x)).data.toList.length = (joinB (nmsL zs x)).size := by simp
  omega

end Go.Proofs.YtepngkhepcjdfaaDoor
