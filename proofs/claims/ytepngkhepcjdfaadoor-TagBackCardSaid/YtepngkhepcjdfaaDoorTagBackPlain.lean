/- The plain side of there and back: a mask's text is read as the mask, and what is read has the text that was read. -/
import Derived.Test.YtepngkhepcjdfaaDoorTagText
import Derived.Test.YtepngkhepcjdfaaDoorTagParse
namespace Go.Proofs.YtepngkhepcjdfaaDoor
open Go.RowKit

theorem ext_list (s : ByteArray) (a b : Nat) : (s.extract a b).data.toList = (s.data.toList.drop a).take (b - a) := by
  rw [ByteArray.data_extract, Array.toList_extract, List.extract_eq_take_drop]
theorem size_list (s : ByteArray) : s.data.toList.length = s.size := by simp
theorem get_list (s : ByteArray) (k : Nat) (h : k < s.size) : s.data.toList[k]'(by rw [size_list]; exact h) = s[k] := rfl

theorem first_spec {s : ByteArray} {k : Nat} (h : firstIdx s 43 = (k : Int)) : ∃ hk : k < s.size, s[k] = 43 := by
  unfold firstIdx at h
  cases e : (List.range s.size).find? fun i => s[i]! == 43 with
  | none => rw [e] at h; simp at h
  | some i =>
    rw [e] at h
    have hi := List.mem_range.1 (List.mem_of_find?_eq_some e)
    have hb := List.find?_some e
    have hik : (i : Int) = (k : Int) := h
    obtain rfl : i = k := by omega
    rw [getElem!_pos s i hi] at hb
    exact ⟨hi, by simpa using hb⟩
theorem cut_ne (m : Nat) (s : ByteArray) : ∃ y r, cutAll m s = y :: r := by
  cases m with
  | zero => exact ⟨_, _, rfl⟩
  | succ m =>
    rw [cutAll]
    split
    · exact ⟨_, _, rfl⟩
    · exact ⟨_, _, rfl⟩
/-- Cut, and joined again, a text is what it was. -/
theorem join_cut : ∀ (m : Nat) (s : ByteArray), joinB (cutAll m s) = s
  | 0, s => rfl
  | m + 1, s => by
    rcases first_lt s 43 with hf | ⟨k, hf, hk⟩
    · rw [cutAll_last _ _ hf]; rfl
    · rw [cutAll_step m k s hf]
      obtain ⟨y, r, e⟩ := cut_ne m (s.extract (k + 1) s.size)
      have ih := join_cut m (s.extract (k + 1) s.size)
      rw [e] at ih ⊢
      rw [joinB, ih]
      refine bytes_ext ?_
      obtain ⟨hk', hs⟩ := first_spec hf
      rw [bytes_app, bytes_app, ext_list, ext_list, List.drop_zero, Nat.sub_zero]
      have hl : (s.data.toList.drop (k + 1)).take (s.size - (k + 1)) = s.data.toList.drop (k + 1) := List.take_of_length_le (by rw [List.length_drop, size_list]; omega)
      rw [hl]
      have hd := List.drop_eq_getElem_cons (l := s.data.toList) (i := k) (by rw [size_list]; exact hk)
      rw [get_list s k hk, hs] at hd
      have ht := List.take_append_drop k s.data.toList
      rw [hd] at ht
      exact ht

theorem name_no43 {x : ByteArray} (h : nameOk x = true) : ∀ j (hj : j < x.size), x[j] ≠ 43 := by
  intro j hj e
  unfold nameOk at h
  simp only [Bool.and_eq_true] at h
  have h2 := h.2
  unfold restOk at h2
  rw [List.drop_zero, List.all_eq_true] at h2
  have h3 := h2 x[j] (by rw [← get_list x j hj]; exact List.getElem_mem _)
  rw [e] at h3
  revert h3
  decide
theorem glue_cut (x J : ByteArray) (h : ∀ j (hj : j < x.size), x[j] ≠ 43) (m : Nat) : cutAll (m + 1) (x ++ (ByteArray.mk #[43] ++ J)) = x :: cutAll m J := by
  have hl : (x ++ (ByteArray.mk #[43] ++ J)).data.toList = x.data.toList ++ (43 :: J.data.toList) := by rw [bytes_app, bytes_app]; rfl
  have hs : (x ++ (ByteArray.mk #[43] ++ J)).size = x.size + (1 + J.size) := by
    rw [ByteArray.size_append, ByteArray.size_append]; rfl
  have hx := size_list x
  have hf : firstIdx (x ++ (ByteArray.mk #[43] ++ J)) 43 = (x.size : Int) := by
    refine first_at _ _ (by omega) ?_ fun j hj => ?_
    · rw [← get_list _ _ (by omega)]
      simp only [hl]
      rw [List.getElem_append_right (by omega)]
      simp [hx]
    · rw [← get_list _ _ (by omega)]
      simp only [hl]
      rw [List.getElem_append_left (by omega), get_list x j hj]
      exact h j hj
  rw [cutAll_step _ _ _ hf]
  congr 1
  · refine bytes_ext ?_
    rw [ext_list, hl, List.drop_zero, Nat.sub_zero, ← hx, List.take_left]
  · congr 1
    refine bytes_ext ?_
    have hd : (x.data.toList ++ (43 :: J.data.toList)).drop (x.data.toList.length + 1) = J.data.toList := by
      rw [List.drop_append]
      simp
    rw [ext_list, hl, ← hx, hd]
    exact List.take_of_length_le (by rw [hs, hx, size_list]; omega)
/-- Names joined, and cut again, are what they were. -/
theorem cut_join : ∀ (L : List ByteArray) (m : Nat), L ≠ [] → (∀ x ∈ L, nameOk x = true) → (joinB L).size ≤ m → cutAll m (joinB L) = L
  | [], _, h, _, _ => (h rfl).elim
  | [x], m, _, h, _ => cutAll_last m x (first_no x (name_no43 (h x (by simp))))
  | x :: y :: r, m, _, h, hm => by
    have h43 : (ByteArray.mk #[43]).size = 1 := rfl
    rw [joinB, ByteArray.size_append, ByteArray.size_append, h43] at hm
    obtain ⟨m', rfl⟩ : ∃ m', m = m' + 1 := ⟨m - 1, by omega⟩
    rw [joinB, glue_cut x _ (name_no43 (h x (by simp))), cut_join (y :: r) m' (by simp) (fun z hz => h z (List.mem_cons_of_mem _ hz)) (by omega)]
theorem parts_join (L : List ByteArray) (h : ∀ x ∈ L, nameOk x = true) : partsB (joinB L) = L := by
  match L, h with
  | [], _ => rfl
  | x :: r, h =>
    have h1 : ¬ (joinB (x :: r)).size = 0 := by
      have hx := name_size (h x (by simp))
      cases r with
      | nil => show ¬ x.size = 0; omega
      | cons y r => rw [joinB, ByteArray.size_append]; omega
    unfold partsB
    rw [if_neg h1, cut_join _ _ (by simp) h (Nat.le_refl _)]
theorem join_parts (s : ByteArray) : joinB (partsB s) = s := by
  unfold partsB
  split
  · rename_i h
    exact (empty_of s h).symm
  · exact join_cut _ _

theorem twice_false {zs : List ByteArray} : ∀ (m k : Nat), twiceFrom zs m k = false → ∀ i, k ≤ i → i < k + m → Lib.containsS (zs.take i) (zs.getD i ByteArray.empty) = false
  | 0, k, _, i, h1, h2 => by omega
  | m + 1, k, h, i, h1, h2 => by
    rw [twiceFrom, Bool.or_eq_false_iff] at h
    by_cases e : i = k
    · subst e; exact h.1
    · exact twice_false m (k + 1) h.2 i (by omega) (by omega)
theorem chk_once {zs : List ByteArray} (h : chkT zs = 0) : twiceFrom zs zs.length 0 = false := by
  unfold chkT at h
  split at h
  · cases h
  · split at h
    · split at h
      · cases h
      · simpa using ‹¬ twiceFrom zs zs.length 0 = true›
    · cases h
/-- In a right table each name stands at its place. -/
theorem idx_at {zs : List ByteArray} (h : chkT zs = 0) (k : Nat) (hk : k < zs.length) : Lib.idxOfS zs zs[k] = (k : Int) := by
  have h1 := twice_false zs.length 0 (chk_once h) k (by omega) (by omega)
  rw [List.getD_eq_getElem?_getD, List.getElem?_eq_getElem hk] at h1
  have h2 := find_before zs k hk
  rw [show Lib.containsS (zs.take k) zs[k] = false from h1] at h2
  have h3 := of_decide_eq_false h2
  rcases idxOf_ways zs zs[k] with ⟨_, h4⟩ | ⟨j, hj, hjl, hjk⟩
  · exact (h4 (List.getElem_mem hk)).elim
  · rw [hj] at h3 ⊢
    rcases Nat.lt_or_ge k j with h5 | h5
    · have h6 := idx_before zs[k] zs j 0 hjk
      rw [Nat.zero_add] at h6
      have h7 : zs[k] ∈ zs.take j := by
        rw [List.mem_take_iff_getElem]
        exact ⟨k, by omega, rfl⟩
      have h8 := h6.2 h7
      unfold Lib.idxOfS at hj
      omega
    · omega
theorem nameAt_get {zs : List ByteArray} {k : Nat} (hk : k < zs.length) : nameAt zs (k : Int) = zs[k] := by
  unfold nameAt
  rw [Int.toNat_natCast, List.getD_eq_getElem?_getD, List.getElem?_eq_getElem hk]
  rfl

theorem has_test (X j : Nat) (hX : X < 2 ^ 64) : hasB [(X : Int)] (j : Int) = X.testBit j := by
  by_cases hj : j < 64
  · have h := has_at [(X : Int)] 0 j X (by decide) hj rfl
    rw [show ((0 : Nat) : Int) * 64 + (j : Int) = (j : Int) by omega] at h
    rw [h, Nat.testBit_eq_decide_div_mod_eq]
  · rw [has_past [(X : Int)] j (by simp; omega), Nat.testBit_lt_two_pow (Nat.lt_of_lt_of_le hX (Nat.pow_le_pow_right (by decide) (by omega)))]

theorem mask_of_bits (X : Nat) (hX : X < 2 ^ 64) : (goP ((bitsL (X : Int)).map Int.toNat)).1 = X := by
  refine Nat.eq_of_testBit_eq fun j => ?_
  rw [goP_bit, Bool.eq_iff_iff, decide_eq_true_iff, List.mem_map, ← has_test X j hX]
  constructor
  · rintro ⟨m, hm, rfl⟩
    have h := (bitsL_mem _ m).1 hm
    have hr := one_has_lt h
    rwa [show ((m.toNat : Nat) : Int) = m by omega]
  · intro h
    exact ⟨(j : Int), (bitsL_mem _ _).2 h, by simp⟩
theorem bits_rise (x : Int) : ((bitsL x).map Int.toNat).Pairwise (· < ·) := by
  rw [List.pairwise_map]
  refine List.Pairwise.imp_of_mem ?_ (bitsL_nums x).1
  intro a b ha hb hab
  have h1 := one_has_lt ((bitsL_mem x a).1 ha)
  have h2 := one_has_lt ((bitsL_mem x b).1 hb)
  omega
theorem end_of_rise {P : List Nat} (h : P.Pairwise (· < ·)) : endW (goP P) = 0 := by
  have hn : P.Nodup := h.imp fun hab => Nat.ne_of_lt hab
  unfold endW
  rw [(goP_twice P).2 hn, (goP_falls P hn).2 h]
  rfl
theorem rise_of_end {P : List Nat} (h : endW (goP P) = 0) : P.Pairwise (· < ·) := by
  unfold endW at h
  have h1 : (goP P).2.1 = false := by
    cases e : (goP P).2.1
    · rfl
    · rw [e] at h; cases h
  have h2 : (goP P).2.2 = false := by
    cases e : (goP P).2.2
    · rfl
    · rw [h1, e] at h; cases h
  exact (goP_falls P ((goP_twice P).1 h1)).1 h2

/-- A mask is read from its text. -/
theorem back_text (zs : List ByteArray) (X : Nat) (hX : X < 2 ^ 64) (h : nmsW zs (X : Int) = 0) : prsW zs (txtB zs X) = 0 ∧ prsM zs (txtB zs X) = X := by
  have ht : chkT zs = 0 := by
    rcases Nat.eq_zero_or_pos (chkT zs) with h1 | h1
    · exact h1
    · have := (nms_err zs X (by omega)).1
      omega
  have hall : ∀ m ∈ bitsL (X : Int), m < (zs.length : Int) := by
    unfold nmsW at h
    rw [if_pos ht] at h
    split at h
    · assumption
    · cases h
  have hL := (nms_ok zs X ht hall).2
  have hpt : partsB (txtB zs X) = (bitsL (X : Int)).map (nameAt zs) := by
    unfold txtB
    rw [parts_join _ (nms_small zs X).1, hL]
  have hat : ∀ m ∈ bitsL (X : Int), Lib.idxOfS zs (nameAt zs m) = m := fun m hm => by
    have hr := one_has_lt ((bitsL_mem _ m).1 hm)
    obtain ⟨k, rfl⟩ := Int.eq_ofNat_of_zero_le hr.1
    have hk : k < zs.length := by have := hall _ hm; omega
    rw [nameAt_get hk]
    exact idx_at ht k hk
  have hin : (partsB (txtB zs X)).all (isIn zs) = true := by
    rw [hpt, List.all_eq_true]
    intro p hp
    obtain ⟨m, hm, rfl⟩ := List.mem_map.1 hp
    have hr := one_has_lt ((bitsL_mem _ m).1 hm)
    unfold isIn
    rw [hat m hm]
    simpa using hr.1
  have hP : (partsB (txtB zs X)).map (plcOf zs) = (bitsL (X : Int)).map Int.toNat := by
    rw [hpt, List.map_map]
    refine List.map_congr_left fun m hm => ?_
    show (Lib.idxOfS zs (nameAt zs m)).toNat = m.toNat
    rw [hat m hm]
  obtain ⟨e1, e2⟩ := prs_end zs (txtB zs X) ht hin
  rw [hP] at e1 e2
  rw [end_of_rise (bits_rise _)] at e1
  rw [e1, if_pos rfl, mask_of_bits X hX] at e2
  exact ⟨e1, e2⟩

/-- What is read has the text that was read. -/
theorem back_mask (zs : List ByteArray) (s : ByteArray) (h : prsW zs s = 0) : prsM zs s < 2 ^ 64 ∧ nmsW zs (prsM zs s : Int) = 0 ∧ txtB zs (prsM zs s : Int) = s := by
  have ht : chkT zs = 0 := by
    rcases Nat.eq_zero_or_pos (chkT zs) with h1 | h1
    · exact h1
    · have := (prs_err zs s (by omega)).1
      omega
  have hin : (partsB s).all (isIn zs) = true := by
    cases e : (partsB s).all (isIn zs)
    · have := (prs_none zs s ht e).1
      omega
    · rfl
  obtain ⟨e1, e2⟩ := prs_end zs s ht hin
  rw [h] at e1
  rw [h, if_pos rfl] at e2
  have hri := rise_of_end e1.symm
  have hlt := goP_lt _ (fun i hi => by obtain ⟨p, hp, rfl⟩ := List.mem_map.1 hi; exact plc_lt ht (List.all_eq_true.1 hin p hp))
  rw [e2]
  generalize hP : (partsB s).map (plcOf zs) = P at *
  have hb : bitsL ((goP P).1 : Int) = P.map Int.ofNat := by
    refine Nums.uniq (bitsL_nums _) ⟨?_, fun m => ?_⟩
    · rw [List.pairwise_map]
      exact hri.imp fun hab => Int.ofNat_lt.2 hab
    · rw [List.mem_map]
      constructor
      · rintro ⟨j, hj, rfl⟩
        show hasB _ ((j : Nat) : Int) = true
        rw [has_test _ _ hlt, goP_bit]
        simpa using hj
      · intro hm
        obtain ⟨j, rfl⟩ := Int.eq_ofNat_of_zero_le (one_has_lt hm).1
        rw [has_test _ _ hlt, goP_bit] at hm
        exact ⟨j, by simpa using hm, rfl⟩
  have hpl : ∀ p ∈ partsB s, plcOf zs p < zs.length ∧ nameAt zs ((plcOf zs p : Nat) : Int) = p := fun p hp => by
    have h1 := of_decide_eq_true (List.all_eq_true.1 hin p hp)
    rcases idxOf_ways zs p with ⟨h2, _⟩ | ⟨k, h2, h3, h4⟩
    · omega
    · have h5 : plcOf zs p = k := by unfold plcOf; rw [h2]; rfl
      rw [h5]
      exact ⟨h3, by rw [nameAt_get h3]; exact (List.getElem?_eq_some_iff.1 h4).2⟩
  have hall : ∀ m ∈ bitsL ((goP P).1 : Int), m < (zs.length : Int) := fun m hm => by
    rw [hb, ← hP] at hm
    obtain ⟨j, hj, rfl⟩ := List.mem_map.1 hm
    obtain ⟨p, hp, rfl⟩ := List.mem_map.1 hj
    have := (hpl p hp).1
    show ((plcOf zs p : Nat) : Int) < _
    omega
  obtain ⟨g1, g2⟩ := nms_ok zs _ ht hall
  refine ⟨hlt, g1, ?_⟩
  unfold txtB
  rw [g2, hb, ← hP, List.map_map, List.map_map]
  have e3 : (partsB s).map ((nameAt zs ∘ Int.ofNat) ∘ plcOf zs) = partsB s := by
    conv => rhs; rw [← List.map_id (partsB s)]
    exact List.map_congr_left fun p hp => (hpl p hp).2
  rw [e3, join_parts]

end Go.Proofs.YtepngkhepcjdfaaDoor
