/- Plain maths of what is chosen for being apart: chosen once more, all of it is. -/
import Derived.Test.YtlgkdonaplejdaaChBest
import Derived.Test.YtlgkdonaplejdaaSpotsL
namespace Go.Proofs.Ytlgkdonaplejdaa
open Go.RowKit Go.Shelf Go.Sort Go.Lib

/-- None is nearer to an earlier one than to where all are seen from. -/
def ApartL (its : List ItT) (ch : List TagC) : Prop := ch.Pairwise (fun e c => c.1.1.1.1 ≤ distC its e c)
theorem near_not {its : List ItT} {ch : List TagC} {c : TagC} (h : ¬ nearC its ch c = true) : ∀ e ∈ ch, c.1.1.1.1 ≤ distC its e c := by
  intro e he
  by_cases h2 : distC its e c < c.1.1.1.1
  · exact absurd (near_true he h2) h
  · omega
theorem splitGo_apart (its : List ItT) (most : Int) : ∀ (M ch oth : List TagC), ApartL its ch → ApartL its (splitGo its most M ch oth).1
  | [], ch, oth, h => h
  | c :: M, ch, oth, h => by
    unfold splitGo
    split
    · exact h
    · split
      · exact splitGo_apart its most M ch (oth ++ [c]) h
      · rename_i _ hn
        refine splitGo_apart its most M (ch ++ [c]) oth ?_
        unfold ApartL
        rw [List.pairwise_append]
        refine ⟨h, by simp, ?_⟩
        intro e he c' hc'
        simp at hc'
        subst hc'
        exact near_not hn e he
theorem splitGo_sub (its : List ItT) (most : Int) : ∀ (M ch oth : List TagC), (splitGo its most M ch oth).1.Sublist (ch ++ M)
  | [], ch, oth => by simp [splitGo]
  | c :: M, ch, oth => by
    unfold splitGo
    split
    · exact List.sublist_append_left _ _
    · split
      · exact (splitGo_sub its most M ch (oth ++ [c])).trans (List.Sublist.append_left (List.sublist_cons_self _ _) _)
      · have := splitGo_sub its most M (ch ++ [c]) oth
        simpa using this
theorem splitGo_all (its : List ItT) (most : Int) : ∀ (M ch oth : List TagC), ApartL its (ch ++ M) → ((ch.length + M.length : Nat) : Int) ≤ most → splitGo its most M ch oth = (ch ++ M, oth)
  | [], ch, oth, _, _ => by simp [splitGo]
  | c :: M, ch, oth, h, hm => by
    have hn : nearC its ch c = false := near_false (fun e he => by
      unfold ApartL at h
      rw [List.pairwise_append] at h
      exact h.2.2 e he c (by simp))
    unfold splitGo
    rw [if_neg (by simp at hm; omega), if_neg (by rw [hn]; simp), splitGo_all its most M (ch ++ [c]) oth (by simpa using h) (by simp at hm ⊢; omega)]
    simp
theorem splitGo_mem (its : List ItT) (most : Int) : ∀ (M ch oth : List TagC) (x : TagC), (x ∈ (splitGo its most M ch oth).1 ∨ x ∈ (splitGo its most M ch oth).2) → x ∈ ch ∨ x ∈ oth ∨ x ∈ M
  | [], ch, oth, x, h => by
    unfold splitGo at h
    rcases h with h | h
    · exact .inl h
    · exact .inr (.inl h)
  | c :: M, ch, oth, x, h => by
    unfold splitGo at h
    split at h
    · rcases h with h | h
      · exact .inl h
      · exact .inr (.inl h)
    · split at h
      · rcases splitGo_mem its most M ch (oth ++ [c]) x h with e | e | e
        · exact .inl e
        · rcases List.mem_append.1 e with e | e
          · exact .inr (.inl e)
          · simp at e; subst e; exact .inr (.inr (by simp))
        · exact .inr (.inr (List.mem_cons_of_mem _ e))
      · rcases splitGo_mem its most M (ch ++ [c]) oth x h with e | e | e
        · rcases List.mem_append.1 e with e | e
          · exact .inl e
          · simp at e; subst e; exact .inr (.inr (by simp))
        · exact .inr (.inl e)
        · exact .inr (.inr (List.mem_cons_of_mem _ e))
theorem splitGo_keeps (its : List ItT) (most : Int) : ∀ (M ch oth : List TagC), ∃ T, (splitGo its most M ch oth).1 = ch ++ T
  | [], ch, oth => ⟨[], by simp [splitGo]⟩
  | c :: M, ch, oth => by
    unfold splitGo
    split
    · exact ⟨[], by simp⟩
    · split
      · exact splitGo_keeps its most M ch (oth ++ [c])
      · obtain ⟨T, h⟩ := splitGo_keeps its most M (ch ++ [c]) oth
        exact ⟨c :: T, by rw [h]; simp⟩
/-- None of the best is ahead of the first. -/
theorem best_first {its : List ItT} {most : Int} {M : List TagC} (hs : M.Pairwise ltX) (hm : 1 ≤ most) : ∀ x ∈ bestL its most M, ltS x.1.1 (spAt (spotsC (bestL its most M)) 0) = false := by
  intro x hx
  cases M with
  | nil => unfold bestL splitGo at hx; simp at hx
  | cons c M =>
    have hgo : splitGo its most (c :: M) [] [] = splitGo its most M [c] [] := by
      rw [splitGo, if_neg (by simp; omega), if_neg (by simp [nearC])]
      rfl
    obtain ⟨T, hT⟩ := splitGo_keeps its most M [c] []
    have h0 : spAt (spotsC (bestL its most (c :: M))) 0 = c.1.1 := by
      unfold bestL
      rw [hgo, hT]
      rfl
    rw [h0]
    have hmem : x ∈ c :: M := by
      unfold bestL at hx
      have h2 : x ∈ (splitGo its most (c :: M) [] []).1 ∨ x ∈ (splitGo its most (c :: M) [] []).2 := by
        rcases List.mem_append.1 hx with e | e
        · exact .inl e
        · exact .inr (List.mem_of_mem_take e)
      rcases splitGo_mem its most (c :: M) [] [] x h2 with e | e | e
      · simp at e
      · simp at e
      · exact e
    rcases head_le hs x hmem with rfl | e
    · exact ordS.irr _
    · rcases e with e | ⟨e, _⟩
      · exact ordS.asym _ _ e
      · exact e

/-- The items of those that were chosen. -/
def againL (its : List ItT) (ch : List TagC) : List ItT := ch.map fun c => itAt its c.2
theorem againL_len (its : List ItT) (ch : List TagC) : (againL its ch).length = ch.length := by simp [againL]
theorem againL_at (its : List ItT) (ch : List TagC) (i : Nat) (h : i < ch.length) : itAt (againL its ch) i = itAt its ch[i].2 := by
  have h2 : (againL its ch)[i]? = some (itAt (againL its ch) i) := itAt_lt (by rw [againL_len]; exact h)
  unfold againL at h2 ⊢
  rw [List.getElem?_map, List.getElem?_eq_getElem h] at h2
  simpa using h2.symm
/-- Chosen once more: all of them. -/
theorem again_all {zs : List SpotT} {its : List ItT} {M ch : List TagC} (hO : IsOrd zs its M) (hch : (splitGo its (zs.length : Int) M [] []).1 = ch) (M2 : List TagC) (hO2 : IsOrd (spotsC ch) (againL its ch) M2) :
    spotsC (splitGo (againL its ch) ((spotsC ch).length : Int) M2 [] []).1 = spotsC ch := by
  have hA : ApartL its ch := by rw [← hch]; exact splitGo_apart its _ M [] [] (by simp [ApartL])
  have hsub : ch.Sublist M := by rw [← hch]; simpa using splitGo_sub its (zs.length : Int) M [] []
  have hsort : ch.Pairwise ltX := hO.2.sublist hsub
  have hmem : ∀ x ∈ ch, x.1.2 = vecOf (itAt its x.2) := fun x hx => (hO.mem (hsub.mem hx)).2.2
  obtain ⟨C, hC⟩ : ∃ C, candsL (spotsC ch) (againL its ch) = C := ⟨_, rfl⟩
  have hCl : C.length = ch.length := by rw [← hC, candsL_len, spotsC_len]
  have hCg : ∀ i (h : i < ch.length), C[i]'(by omega) = ((ch[i].1.1, vecOf (itAt its ch[i].2)), i) := fun i h => by
    subst hC
    rw [candsL_get, againL_at its ch i h]
    congr 2
    rw [spAt_get (by rw [spotsC_len]; exact h)]
    simp [spotsC]
  have hCs : C.Pairwise ltX := by
    rw [List.pairwise_iff_getElem]
    intro i j hi hj hij
    rw [hCg i (by omega), hCg j (by omega)]
    have h := (List.pairwise_iff_getElem.1 hsort) i j (by omega) (by omega) hij
    rcases h with h | ⟨h, _⟩
    · exact .inl h
    · exact .inr ⟨h, hij⟩
  have hM2 : M2 = C := by
    have hOC : IsOrd (spotsC ch) (againL its ch) C := ⟨by rw [hC], hCs⟩
    exact hO2.one hOC
  have hCA : ApartL (againL its ch) C := by
    unfold ApartL
    rw [List.pairwise_iff_getElem]
    intro i j hi hj hij
    rw [hCg i (by omega), hCg j (by omega)]
    have h := (List.pairwise_iff_getElem.1 hA) i j (by omega) (by omega) hij
    unfold distC at h ⊢
    simp only [againL_at its ch i (by omega), againL_at its ch j (by omega)]
    exact h
  rw [hM2, splitGo_all (againL its ch) _ C [] [] (by simpa using hCA) (by rw [spotsC_len, hCl]; simp)]
  unfold spotsC
  simp only [List.nil_append]
  apply List.ext_getElem
  · simp [hCl]
  · intro i h1 h2
    simp only [List.getElem_map]
    rw [hCg i (by simpa using h2)]

end Go.Proofs.Ytlgkdonaplejdaa
