/- Plain maths of what is chosen for being apart, for ChooseApart. -/
import Derived.Test.YtlgkdonaplejdaaTopApartP
namespace Go.Proofs.Ytlgkdonaplejdaa
open Go.RowKit Go.Shelf Go.Sort Go.Lib

/-- With fewer that may be chosen: the beginning of what is chosen. -/
theorem splitGo_take (its : List ItT) (most big : Int) : ∀ (M ch oth oth2 : List TagC), ((ch.length + M.length : Nat) : Int) ≤ big → (splitGo its most M ch oth).1 = (splitGo its big M ch oth2).1.take (max most.toNat ch.length)
  | [], ch, oth, oth2, _ => by
    unfold splitGo
    simp only
    rw [List.take_of_length_le (by omega)]
  | c :: M, ch, oth, oth2, hb => by
    have hb' : ((ch.length + (M.length + 1) : Nat) : Int) ≤ big := by simpa using hb
    rw [splitGo, splitGo, if_neg (show ¬ big ≤ (ch.length : Int) by omega)]
    by_cases hm : most ≤ (ch.length : Int)
    · rw [if_pos hm, show max most.toNat ch.length = ch.length by omega]
      split
      · obtain ⟨T, hT⟩ := splitGo_keeps its big M ch (oth2 ++ [c])
        simp [hT]
      · obtain ⟨T, hT⟩ := splitGo_keeps its big M (ch ++ [c]) oth2
        simp [hT]
    · rw [if_neg hm]
      split
      · exact splitGo_take its most big M ch _ _ (by omega)
      · rw [splitGo_take its most big M (ch ++ [c]) oth oth2 (by simp; omega)]
        congr 1
        simp
        omega
/-- Of the best the first ones are those that are chosen. -/
theorem best_at {its : List ItT} {most big : Int} {M : List TagC} (hm : 1 ≤ most) (hb : (M.length : Int) ≤ big) {i : Nat} (h1 : i < (bestL its most M).length) (h2 : i < (splitGo its big M [] []).1.length) : (bestL its most M)[i] = (splitGo its big M [] []).1[i] := by
  have e := splitGo_take its most big M [] [] [] (by simpa using hb)
  have hA : i < (splitGo its most M [] []).1.length := by
    unfold bestL at h1
    rw [List.length_append, List.length_take] at h1
    rw [e, List.length_take] at h1 ⊢
    simp only [List.length_nil] at h1 ⊢
    omega
  have : (bestL its most M)[i] = (splitGo its most M [] []).1[i] := by
    exact List.getElem_append_left hA
  rw [this]
  have e2 : (splitGo its most M [] []).1[i]? = ((splitGo its big M [] []).1.take (max most.toNat ([] : List TagC).length))[i]? := by rw [e]
  rw [List.getElem?_eq_getElem hA, List.getElem?_take] at e2
  split at e2
  · rw [List.getElem?_eq_getElem h2] at e2
    injection e2
  · cases e2
/-- Whatever is not chosen has one that is, ahead of it and nearer. -/
theorem splitGo_rest (its : List ItT) (big : Int) : ∀ (M ch oth : List TagC), ((ch.length + M.length : Nat) : Int) ≤ big → M.Pairwise ltX → (∀ e ∈ ch, ∀ x ∈ M, ltX e x) → ∀ x ∈ M, x ∈ (splitGo its big M ch oth).1 ∨ ∃ e ∈ (splitGo its big M ch oth).1, distC its e x < x.1.1.1.1 ∧ ltX e x
  | [], _, _, _, _, _ => fun x hx => by simp at hx
  | c :: M, ch, oth, hb, hs, hc => by
    have hb' : ((ch.length + (M.length + 1) : Nat) : Int) ≤ big := by simpa using hb
    rw [List.pairwise_cons] at hs
    intro x hx
    rw [splitGo, if_neg (show ¬ big ≤ (ch.length : Int) by omega)]
    by_cases hn : nearC its ch c = true
    · rw [if_pos hn]
      rcases List.mem_cons.1 hx with rfl | hx
      · right
        unfold nearC at hn
        obtain ⟨e, he, h⟩ := List.any_eq_true.1 hn
        obtain ⟨T, hT⟩ := splitGo_keeps its big M ch (oth ++ [x])
        exact ⟨e, by rw [hT]; exact List.mem_append_left _ he, by simpa using h, hc e he x (by simp)⟩
      · exact splitGo_rest its big M ch (oth ++ [c]) (by omega) hs.2 (fun e he x hx => hc e he x (List.mem_cons_of_mem _ hx)) x hx
    · rw [if_neg hn]
      rcases List.mem_cons.1 hx with rfl | hx
      · left
        obtain ⟨T, hT⟩ := splitGo_keeps its big M (ch ++ [x]) oth
        rw [hT]
        simp
      · refine splitGo_rest its big M (ch ++ [c]) oth (by simp; omega) hs.2 (fun e he y hy => ?_) x hx
        rcases List.mem_append.1 he with he | he
        · exact hc e he y (List.mem_cons_of_mem _ hy)
        · simp at he
          subst he
          exact hs.1 y hy
theorem ltX_strict {e x : TagC} (h : ltX e x) (h1 : e.1.1.2 = (e.2 : Int)) (h2 : x.1.1.2 = (x.2 : Int)) : ltS e.1.1 x.1.1 = true := by
  rcases h with h | ⟨h, hi⟩
  · exact h
  · cases e1 : ltS e.1.1 x.1.1
    · have e2 : x.1.1.2 = e.1.1.2 := congrArg (fun y : SpotT => y.2) (leS_anti _ _ ((leS_iff _ _).2 e1) ((leS_iff _ _).2 h))
      omega
    · rfl
/-- What is chosen, told by the law's own data. -/
structure Chosen (q : List Int) (its : List ItT) (ch : List TagC) : Prop where
  mem : ∀ x ∈ ch, x.2 < its.length ∧ x.1.1 = spotOf q (x.2 : Int) (itAt its x.2)
  ahead : ∀ i (h : i + 1 < ch.length), ltS (ch[i]'(by omega)).1.1 ch[i + 1].1.1 = true
  once : ∀ i j (hi : i < ch.length) (hj : j < i), ¬ (ch[j]'(by omega)).2 = ch[i].2
  apart : ∀ i j (hi : i < ch.length) (hj : j < i), ¬ distC its ch[i] (ch[j]'(by omega)) < ch[i].1.1.1.1
  rest : ∀ k, k < its.length → (∃ x ∈ ch, x.2 = k) ∨ ∃ e ∈ ch, ltS e.1.1 (spotOf q (k : Int) (itAt its k)) = true ∧ satN (distN (itAt its k).vec (itAt its e.2).vec (max (itAt its k).vec.length (itAt its e.2).vec.length)) < (spotOf q (k : Int) (itAt its k)).1.1
  first : 0 < its.length → 0 < ch.length
theorem distC_comm (its : List ItT) (e c : TagC) : distC its e c = distC its c e := by
  unfold distC
  rw [distN_comm, Nat.max_comm]
theorem chosen_of {q : List Int} {its : List ItT} {M ch : List TagC} (hO : IsOrd (spotsL q its) its M) (hch : (splitGo its ((spotsL q its).length : Int) M [] []).1 = ch) : Chosen q its ch := by
  have hl : M.length = its.length := by rw [hO.len, spotsL_len]
  have hM : ∀ x ∈ M, x.2 < its.length ∧ x.1.1 = spotOf q (x.2 : Int) (itAt its x.2) ∧ x.1.2 = vecOf (itAt its x.2) := fun x hx => by
    obtain ⟨h1, h2, h3⟩ := hO.mem hx
    rw [spotsL_len] at h1
    refine ⟨h1, ?_, h3⟩
    rw [h2, spAt_get (by rw [spotsL_len]; exact h1)]
    simp [spotsL]
  have hs2 : ∀ x ∈ M, x.1.1.2 = (x.2 : Int) := fun x hx => by rw [(hM x hx).2.1]; rfl
  have hsub : ch.Sublist M := by rw [← hch]; simpa using splitGo_sub its ((spotsL q its).length : Int) M [] []
  have hsort : ch.Pairwise ltX := hO.2.sublist hsub
  have hA : ApartL its ch := by rw [← hch]; exact splitGo_apart its _ M [] [] (by simp [ApartL])
  have hp := List.pairwise_iff_getElem.1 hsort
  have hone : ∀ x ∈ M, ∀ y ∈ M, x.2 = y.2 → x = y := fun x hx y hy e => by
    have h1 := (hM x hx).2
    have h2 := (hM y hy).2
    rw [e] at h1
    obtain ⟨⟨x1, x2⟩, x3⟩ := x
    obtain ⟨⟨y1, y2⟩, y3⟩ := y
    simp only at e h1 h2
    rw [e, h1.1, h1.2, h2.1, h2.2]
  have hrest := splitGo_rest its ((spotsL q its).length : Int) M [] [] (by rw [spotsL_len, hl]; simp) hO.2 (fun e he => by simp at he)
  rw [hch] at hrest
  have hcand : ∀ k, k < its.length → ∃ x ∈ M, x.2 = k := fun k hk => by
    have : ((spAt (spotsL q its) k, vecOf (itAt its k)), k) ∈ candsL (spotsL q its) its := by
      unfold candsL
      simp only [List.mem_map, List.mem_range]
      exact ⟨k, by rw [spotsL_len]; exact hk, rfl⟩
    exact ⟨_, hO.1.mem_iff.2 this, rfl⟩
  refine ⟨fun x hx => ⟨(hM x (hsub.mem hx)).1, (hM x (hsub.mem hx)).2.1⟩, ?_, ?_, ?_, ?_, ?_⟩
  · intro i h
    exact ltX_strict (hp i (i + 1) (by omega) h (by omega)) (hs2 _ (hsub.mem (List.getElem_mem _))) (hs2 _ (hsub.mem (List.getElem_mem _)))
  · intro i j hi hj e
    have h := hp j i (by omega) hi hj
    rw [hone _ (hsub.mem (List.getElem_mem _)) _ (hsub.mem (List.getElem_mem _)) e] at h
    exact ltX_asym h h
  · intro i j hi hj
    have h := (List.pairwise_iff_getElem.1 hA) j i (by omega) hi hj
    rw [distC_comm]
    omega
  · intro k hk
    obtain ⟨x, hx, rfl⟩ := hcand k hk
    rcases hrest x hx with h | ⟨e, he, h1, h2⟩
    · exact .inl ⟨x, h, rfl⟩
    · refine .inr ⟨e, he, ?_, ?_⟩
      · rw [← (hM x hx).2.1]
        exact ltX_strict h2 (hs2 e (hsub.mem he)) (hs2 x hx)
      · rw [distC_comm] at h1
        unfold distC at h1
        rw [← (hM x hx).2.1]
        exact h1
  · intro h
    obtain ⟨x, hx, e⟩ := hcand 0 h
    rcases hrest x hx with h | ⟨e, he, _⟩
    · exact List.length_pos_of_mem h
    · exact List.length_pos_of_mem he

end Go.Proofs.Ytlgkdonaplejdaa
