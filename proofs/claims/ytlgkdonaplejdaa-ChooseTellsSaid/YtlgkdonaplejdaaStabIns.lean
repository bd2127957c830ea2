/- The insertion sort at a part of a list whose places rise: what it leaves. -/
import Derived.Test.YtlgkdonaplejdaaStabPlain
namespace Go.Proofs.Ytlgkdonaplejdaa
open Go.RowKit Go.Shelf Go.Sort Go.Lib

/-- Places rise. -/
def Rises (L : List TagC) : Prop := L.Pairwise (fun x y => x.2 < y.2)

theorem insInner_list (A C : List TagC) (x : TagC) (a : Nat) (ha : A.length = a) : ∀ (n : Nat) (B1 B2 : List TagC), B1.length = n → (B1 ++ B2).Pairwise ltX → (∀ y ∈ B1, y.2 < x.2) → (∀ y ∈ B2, ltX x y) →
    ∃ B1' B2', B1' ++ B2' = B1 ++ B2 ∧ insInner (ltOf cmpC) a (a + n) (A ++ (B1 ++ (x :: (B2 ++ C)))).toArray = (A ++ (B1' ++ (x :: (B2' ++ C)))).toArray ∧ (B1' ++ x :: B2').Pairwise ltX
  | 0, B1, B2, hn, hs, _, h2 => by
    obtain rfl := List.eq_nil_of_length_eq_zero hn
    refine ⟨[], B2, rfl, insInner_stop _ _ _ _ (.inl (by omega)), ?_⟩
    exact List.pairwise_cons.2 ⟨h2, by simpa using hs⟩
  | n + 1, B1, B2, hn, hs, h1, h2 => by
    obtain ⟨B0, y, rfl⟩ := snoc_of (L := B1) (fun e => by rw [e] at hn; simp at hn)
    have hn0 : B0.length = n := by simpa using hn
    have hM : A ++ (B0 ++ [y] ++ (x :: (B2 ++ C))) = (A ++ B0) ++ y :: ([] ++ x :: (B2 ++ C)) := by simp
    have gx : (A ++ (B0 ++ [y] ++ (x :: (B2 ++ C)))).toArray[a + (n + 1)]! = x := by
      rw [hM]
      exact at_mid2 _ _ _ _ _ (by simp; omega)
    have gy : (A ++ (B0 ++ [y] ++ (x :: (B2 ++ C)))).toArray[a + (n + 1) - 1]! = y := by
      rw [hM]
      exact at_mid _ _ _ (by simp; omega)
    by_cases hlt : cmpC x y < 0
    · have hgo := insInner_go (ltOf cmpC) a (a + (n + 1)) (A ++ (B0 ++ [y] ++ (x :: (B2 ++ C)))).toArray (by omega) (by rw [gx, gy]; exact decide_eq_true hlt)
      have hsw : swp (A ++ (B0 ++ [y] ++ (x :: (B2 ++ C)))).toArray (a + (n + 1)) (a + (n + 1) - 1) = (A ++ (B0 ++ (x :: ((y :: B2) ++ C)))).toArray := by
        have h := swp_lists (A ++ B0) [] (B2 ++ C) y x
        rw [hM, swp_comm _ _ _ (by omega), show a + (n + 1) - 1 = (A ++ B0).length by simp; omega, show a + (n + 1) = (A ++ B0).length + 1 + ([] : List TagC).length by simp; omega, h]
        simp
      rw [hgo, hsw, show a + (n + 1) - 1 = a + n by omega]
      have hs' : (B0 ++ (y :: B2)).Pairwise ltX := by simpa using hs
      obtain ⟨B1', B2', e1, e2, e3⟩ := insInner_list A C x a ha n B0 (y :: B2) hn0 hs' (fun z hz => h1 z (by simp [hz])) (fun z hz => by
        rcases List.mem_cons.1 hz with rfl | hz
        · exact ltX_of_less hlt
        · exact h2 z hz)
      exact ⟨B1', B2', by rw [e1]; simp, e2, e3⟩
    · refine ⟨B0 ++ [y], B2, rfl, insInner_stop _ _ _ _ (.inr (by rw [gx, gy]; exact decide_eq_false hlt)), ?_⟩
      have hy : ltX y x := ltX_of_not hlt (h1 y (by simp))
      rw [List.pairwise_append] at hs
      refine List.pairwise_append.2 ⟨hs.1, List.pairwise_cons.2 ⟨h2, hs.2.1⟩, ?_⟩
      intro z hz t ht
      rcases List.mem_cons.1 ht with rfl | ht
      · rcases last_le hs.1 z hz with rfl | e
        · exact hy
        · exact ltX_trans e hy
      · exact hs.2.2 z hz t ht

theorem insOuter_list (A S : List TagC) (a b : Nat) (ha : A.length = a) : ∀ (n : Nat) (B C : List TagC), C.length = n → a + B.length + C.length = b → B.Pairwise ltX → Rises C → (∀ x ∈ B, ∀ y ∈ C, x.2 < y.2) →
    ∃ B', B'.Perm (B ++ C) ∧ B'.Pairwise ltX ∧ insOuter (ltOf cmpC) a b (a + B.length) (A ++ (B ++ (C ++ S))).toArray = (A ++ (B' ++ S)).toArray
  | 0, B, C, hn, hb, hs, _, _ => by
    obtain rfl := List.eq_nil_of_length_eq_zero hn
    refine ⟨B, by simp, hs, ?_⟩
    rw [insOuter_stop _ _ _ _ _ (by simp at hb; omega)]
    simp
  | n + 1, B, C, hn, hb, hs, hr, hx => by
    obtain ⟨x, C', rfl⟩ := List.exists_cons_of_ne_nil (l := C) (fun e => by rw [e] at hn; simp at hn)
    have hr' := hr
    unfold Rises at hr'
    rw [List.pairwise_cons] at hr'
    rw [insOuter_go _ _ _ _ _ (by simp at hb; omega)]
    obtain ⟨B1, B2, e1, e2, e3⟩ := insInner_list A (C' ++ S) x a ha B.length B [] rfl (by simpa using hs) (fun y hy => hx y hy x (by simp)) (by simp)
    have e0 : A ++ (B ++ (x :: C' ++ S)) = A ++ (B ++ (x :: ([] ++ (C' ++ S)))) := by simp
    rw [e0, e2]
    have hl : (B1 ++ x :: B2).length = B.length + 1 := by
      have := congrArg List.length e1
      simp at this ⊢
      omega
    have hp : (B1 ++ x :: B2).Perm (B ++ [x]) := by
      rw [show B = B1 ++ B2 by simpa using e1.symm]
      exact List.perm_middle.trans (List.perm_append_singleton _ _).symm
    obtain ⟨B', p1, p2, p3⟩ := insOuter_list A S a b ha n (B1 ++ x :: B2) C' (by simpa using hn) (by rw [hl]; simp at hb; omega) e3 hr'.2 (fun z hz y hy => by
      rcases List.mem_append.1 (hp.mem_iff.1 hz) with e | e
      · exact hx z e y (by simp [hy])
      · simp at e
        subst e
        exact hr'.1 y hy)
    refine ⟨B', p1.trans ((hp.append_right C').trans (by simp)), p2, ?_⟩
    rw [hl] at p3
    rw [show A ++ (B1 ++ (x :: (B2 ++ (C' ++ S)))) = A ++ (B1 ++ x :: B2 ++ (C' ++ S)) by simp, Nat.add_assoc]
    exact p3
theorem insSort_list (A C S : List TagC) (a b : Nat) (ha : A.length = a) (hb : a + C.length = b) (hr : Rises C) :
    ∃ B, B.Perm C ∧ B.Pairwise ltX ∧ Sort.insertionSort (ltOf cmpC) (A ++ (C ++ S)).toArray a b = (A ++ (B ++ S)).toArray := by
  unfold Sort.insertionSort
  cases C with
  | nil => exact ⟨[], List.Perm.refl _, by simp, insOuter_stop _ _ _ _ _ (by simp at hb; omega)⟩
  | cons x C =>
    have hr' := hr
    unfold Rises at hr'
    rw [List.pairwise_cons] at hr'
    obtain ⟨B, p1, p2, p3⟩ := insOuter_list A S a b ha C.length [x] C rfl (by simp at hb ⊢; omega) (by simp) hr'.2 (fun z hz y hy => by simp at hz; subst hz; exact hr'.1 y hy)
    exact ⟨B, p1, p2, by simpa using p3⟩

end Go.Proofs.Ytlgkdonaplejdaa
