/- Two ranges of a row exchanged; two ranges that lie beside each other change places. -/
import Derived.Test.YtlgkdonaplejdaaStabCmp
namespace Go.Proofs.Ytlgkdonaplejdaa
open Go.RowKit Go.Shelf Go.Sort Go.Lib

theorem at_mid {α : Type} [Inhabited α] (A C : List α) (x : α) {i : Nat} (hi : i = A.length) : (A ++ x :: C).toArray[i]! = x := by
  subst hi
  simp
theorem at_mid2 {α : Type} [Inhabited α] (A B C : List α) (x y : α) {j : Nat} (hj : j = A.length + 1 + B.length) : (A ++ x :: (B ++ y :: C)).toArray[j]! = y := by
  subst hj
  have h : (A ++ x :: (B ++ y :: C))[A.length + 1 + B.length]? = some y := by
    rw [List.getElem?_append_right (by omega), show A.length + 1 + B.length - A.length = B.length + 1 by omega, List.getElem?_cons_succ, List.getElem?_append_right (Nat.le_refl _), Nat.sub_self, List.getElem?_cons_zero]
  rw [getElem!_def]
  simp [h]
theorem split_next {α : Type} {X X1 X2 : List α} {k : Nat} (h : X = X1 ++ X2) (hk : X1.length = k) (hlt : k < X.length) : ∃ x X3, X2 = x :: X3 ∧ X = (X1 ++ [x]) ++ X3 := by
  cases X2 with
  | nil => subst h; simp at hlt; omega
  | cons x X3 => exact ⟨x, X3, rfl, by rw [h]; simp⟩

section
variable {w : World} {g : Nat} {d : Array TagC}
set_option maxRecDepth 100000 in
set_option maxHeartbeats 8000000 in
theorem swapRange_any (hH : HoldsK encC 4 w g 0 d) (hg : g < w.heap.size) (P X Q Y S : List TagC) (a b n N m cap : Nat) (os : Array Obj) (fv : Value) (ha : a = P.length) (hb : b = P.length + n + Q.length) (hX : X.length = n) (hY : Y.length = n) (hN : P.length + n + Q.length + n + S.length = N) (hd : d.size = N) (hNs : N < 1000000) :
    Calls Try.prog 213 #[.slice (some ⟨g, 0, none⟩) N cap, .int .i64 a, .int .i64 b, .int .i64 n, fv] (SwC w g m (P ++ (X ++ (Q ++ (Y ++ S)))) os) (RowC w g (P ++ (Y ++ (Q ++ (X ++ S))))) := by
  have HH := Lib.hid hH
  have HP := Lib.hid (And.intro ha (And.intro hb (And.intro hX (And.intro hY (And.intro hN hd)))))
  have hab : a + n ≤ b ∧ b + n ≤ N := by omega
  clear hH ha hb hX hY hN hd
  go_enter Try.func213, Try.ntmps213
  go_wp2
  go_loopw [10] (fun i wr => ∃ (k m : Nat) (X1 X2 Y1 Y2 : List TagC) (os : Array Obj), k ≤ n ∧ i = .int .i64 k ∧ Hid (X = X1 ++ X2 ∧ Y = Y1 ++ Y2 ∧ X1.length = k ∧ Y1.length = k) ∧ wr = SwC w g m (P ++ (Y1 ++ (X2 ++ (Q ++ (X1 ++ (Y2 ++ S)))))) os) (fun i _ => n - (intOf i).toNat)
  case atStart => exact ⟨0, m, [], X, [], Y, os, Nat.zero_le _, rfl, ⟨rfl, rfl, rfl, rfl⟩, rfl⟩
  case round =>
    obtain ⟨k, m, X1, X2, Y1, Y2, os, hk, rfl, HXY, rfl⟩ := hrel
    by_cases hlt : k < n
    · obtain ⟨x, X3, rfl, hX3⟩ := split_next HXY.out.1 HXY.out.2.2.1 (by have := HP.out; omega)
      obtain ⟨y, Y3, rfl, hY3⟩ := split_next HXY.out.2.1 HXY.out.2.2.2 (by have := HP.out; omega)
      obtain ⟨M, hM⟩ : ∃ M, P ++ (Y1 ++ (x :: X3 ++ (Q ++ (X1 ++ (y :: Y3 ++ S))))) = M := ⟨_, rfl⟩
      have hM2 : (P ++ Y1) ++ x :: ((X3 ++ (Q ++ X1)) ++ y :: (Y3 ++ S)) = M := by rw [← hM]; simp
      have lX : X1.length + 1 + X3.length = n := by have := HP.out.2.2.1; rw [hX3] at this; simp at this; omega
      have lY : Y1.length + 1 + Y3.length = n := by have := HP.out.2.2.2.1; rw [hY3] at this; simp at this; omega
      have hl1 := HXY.out.2.2.1
      have hl2 := HXY.out.2.2.2
      have hp := HP.out
      have hMl : M.length = N := by rw [← hM2]; simp; omega
      have hi : a + k = (P ++ Y1).length := by simp; omega
      have hj : b + k = (P ++ Y1).length + 1 + (X3 ++ (Q ++ X1)).length := by simp; omega
      have gx : M.toArray[a + k]! = x := by rw [← hM2]; exact at_mid _ _ _ hi
      have gy : M.toArray[b + k]! = y := by rw [← hM2]; exact at_mid2 _ _ _ _ _ hj
      have hSW : swp M.toArray (a + k) (b + k) = (P ++ ((Y1 ++ [y]) ++ (X3 ++ (Q ++ ((X1 ++ [x]) ++ (Y3 ++ S)))))).toArray := by
        rw [← hM2, hi, hj, swp_lists]
        simp
      have hHM := holdsC (m := m) (os := os) HH.out hg hp.2.2.2.2.2 hMl
      have cx := CellC.of hHM (i := a + k) (by simp; omega)
      have cy := CellC.of hHM (i := b + k) (by simp; omega)
      rw [gx] at cx
      rw [gy] at cy
      have HSW := Lib.hid (hSW ▸ stores_swp (m := m) (os := os) hg (show a + k < M.length by omega) (show b + k < M.length by omega) gx gy)
      have HN := Lib.hid (And.intro hX3 (And.intro hY3 (And.intro hl1 hl2)))
      have hab2 : a + k < b + k ∧ b + k < N := by omega
      rw [hM]
      clear gx gy hSW hHM lX lY hl1 hl2 hp hMl hi hj hM2 hM HXY hX3 hY3
      generalize SwC w g m M os = W at *
      have cz := cy.behind (i := a + k) (by omega) (.int .u64 y.1.1.1.1) (.int .u64 y.1.1.1.2) (.int .i64 y.1.1.2) (.slice y.1.2.1 y.1.2.2.1 y.1.2.2.2)
      obtain ⟨⟨⟨⟨xa, xb⟩, xc⟩, xA, xn, xk⟩, xt⟩ := x
      obtain ⟨⟨⟨⟨ya, yb⟩, yc⟩, yA, yn, yk⟩, yt⟩ := y
      obtain ⟨x0, x1, x2, x3, f0, f1, f2, f3⟩ := cx
      obtain ⟨y0, y1, y2, y3, e0, e1, e2, e3⟩ := cy
      obtain ⟨z0, z1, z2, z3, -, -, -, -⟩ := cz
      simp only at x0 x1 x2 x3 y0 y1 y2 y3 z0 z1 z2 z3 HSW
      have tI : ((a : Int) + (k : Int)).toNat = a + k := by omega
      have tJ : ((b : Int) + (k : Int)).toNat = b + k := by omega
      have bI : (a : Int) + (k : Int) < (N : Int) := by omega
      have bJ : (b : Int) + (k : Int) < (N : Int) := by omega
      have pI : (0 : Int) ≤ (a : Int) + (k : Int) := by omega
      have pJ : (0 : Int) ≤ (b : Int) + (k : Int) := by omega
      go_wp2_with fail
      go_region
      go_wp2
      go_roundw
      case rel => exact ⟨k + 1, m + 1, X1 ++ [((((xa, xb), xc), xA, xn, xk), xt)], X3, Y1 ++ [((((ya, yb), yc), yA, yn, yk), yt)], Y3, os, by omega, by go_num, ⟨HN.out.1, HN.out.2.1, by simp [HN.out.2.2.1], by simp [HN.out.2.2.2]⟩, HSW.out⟩
      case measure => simp [intOf]; omega
    · have hke : k = n := by omega
      have hp := HP.out
      have e1 : X = X1 := by
        have h := HXY.out.1
        have hl : X2 = [] := List.eq_nil_of_length_eq_zero (by have h2 := congrArg List.length h; rw [List.length_append, hp.2.2.1, HXY.out.2.2.1] at h2; omega)
        rw [h, hl, List.append_nil]
      have e2 : Y = Y1 := by
        have h := HXY.out.2.1
        have hl : Y2 = [] := List.eq_nil_of_length_eq_zero (by have h2 := congrArg List.length h; rw [List.length_append, hp.2.2.2.1, HXY.out.2.2.2] at h2; omega)
        rw [h, hl, List.append_nil]
      have h1 : X2 = [] := by have h := HXY.out.1; rw [e1] at h; simpa using h
      have h2 : Y2 = [] := by have h := HXY.out.2.1; rw [e2] at h; simpa using h
      have HE : Hid (P ++ (Y1 ++ (X2 ++ (Q ++ (X1 ++ (Y2 ++ S))))) = P ++ (Y ++ (Q ++ (X ++ S)))) := by rw [Hid, h1, h2, e1, e2]; simp
      clear hp e1 e2 h1 h2 HXY
      go_wp2
      exact bodyPost_end (results_none rfl _ _ _) rfl ⟨rfl, m, os, by rw [HE.out]⟩
theorem swapRange_at (hH : HoldsK encC 4 w g 0 d) (hg : g < w.heap.size) (P X Q Y S : List TagC) (N m cap n : Nat) (os : Array Obj) (fv : Value) (za zb zn : Int) (ha : za = (P.length : Int)) (hb : zb = ((P.length + n + Q.length : Nat) : Int)) (hn : zn = (n : Int)) (hX : X.length = n) (hY : Y.length = n) (hN : P.length + n + Q.length + n + S.length = N) (hd : d.size = N) (hNs : N < 1000000) :
    Calls Try.prog 213 #[.slice (some ⟨g, 0, none⟩) N cap, .int .i64 za, .int .i64 zb, .int .i64 zn, fv] (SwC w g m (P ++ (X ++ (Q ++ (Y ++ S)))) os) (RowC w g (P ++ (Y ++ (Q ++ (X ++ S))))) := by
  subst ha hb hn
  exact swapRange_any hH hg P X Q Y S _ _ n N m cap os fv rfl rfl hX hY hN hd hNs

set_option maxRecDepth 100000 in
set_option maxHeartbeats 8000000 in
theorem rotate_any (hH : HoldsK encC 4 w g 0 d) (hg : g < w.heap.size) (P X Y S : List TagC) (N mm cap : Nat) (os : Array Obj) (fv : Value) (za zm zb : Int) (ha : za = (P.length : Int)) (hm : zm = ((P.length + X.length : Nat) : Int)) (hb : zb = ((P.length + X.length + Y.length : Nat) : Int)) (hX : 0 < X.length) (hY : 0 < Y.length) (hN : P.length + X.length + Y.length + S.length = N) (hd : d.size = N) (hNs : N < 1000000) :
    Calls Try.prog 208 #[.slice (some ⟨g, 0, none⟩) N cap, .int .i64 za, .int .i64 zm, .int .i64 zb, fv] (SwC w g mm (P ++ (X ++ (Y ++ S))) os) (RowC w g (P ++ (Y ++ (X ++ S)))) := by
  obtain ⟨md, hmd⟩ : ∃ md : Nat, P.length + X.length = md := ⟨_, rfl⟩
  rw [hmd] at hm
  subst hm
  have HH := Lib.hid hH
  have HP := Lib.hid (And.intro hmd (And.intro hX (And.intro hY (And.intro hN hd))))
  have b1 : (md : Int) - za = (X.length : Int) := by omega
  have b2 : zb - (md : Int) = (Y.length : Int) := by omega
  have b3 : za = (P.length : Int) := ha
  have b4 : zb = (md : Int) + (Y.length : Int) := by omega
  have b5 : md + Y.length ≤ N := by omega
  have b6 : P.length + X.length = md := hmd
  clear hH hX hY hN hd ha hb hmd
  go_enter Try.func208, Try.ntmps208
  go_wp2
  go_loopw [10, 11] (fun vi vj wr => ∃ (i j m : Nat) (A X1 Y1 B : List TagC) (os : Array Obj), vi = .int .i64 i ∧ vj = .int .i64 j ∧ 0 < i ∧ 0 < j ∧ i ≤ md ∧ md + j ≤ N ∧ Hid (X1.length = i ∧ Y1.length = j ∧ A.length + i = md ∧ A.length + i + j + B.length = N ∧ A ++ (Y1 ++ (X1 ++ B)) = P ++ (Y ++ (X ++ S))) ∧ wr = SwC w g m (A ++ (X1 ++ (Y1 ++ B))) os) (fun vi vj _ => (intOf vi).toNat + (intOf vj).toNat)
  case atStart => exact ⟨X.length, Y.length, mm, P, X, Y, S, os, by rw [← b1]; go_num, by rw [← b2]; go_num, HP.out.2.1, HP.out.2.2.1, by omega, by omega, ⟨rfl, rfl, HP.out.1, by have := HP.out.2.2.2.1; omega, rfl⟩, rfl⟩
  case round =>
    obtain ⟨i, j, m, A, X1, Y1, B, os, rfl, rfl, hi, hj, hi2, hj2, HR, rfl⟩ := hrel
    clear b1 b2 b3 b4 b5 b6
    rcases Nat.lt_trichotomy j i with hlt | heq | hlt
    · obtain ⟨X2, X3, hX2, hl2⟩ : ∃ X2 X3, X1 = X2 ++ X3 ∧ X2.length = j := ⟨X1.take j, X1.drop j, (List.take_append_drop j X1).symm, by rw [List.length_take, HR.out.1]; omega⟩
      have hl3 : X3.length = i - j := by have h := HR.out.1; rw [hX2, List.length_append] at h; omega
      have hw : A ++ (X1 ++ (Y1 ++ B)) = A ++ (X2 ++ (X3 ++ (Y1 ++ B))) := by rw [hX2]; simp
      rw [hw]
      have HC := Lib.hid (fun za zb zn h1 h2 h3 => swapRange_at HH.out hg A X2 X3 Y1 B N m cap j os fv za zb zn h1 h2 h3 hl2 HR.out.2.1 (by have := HR.out.2.2.2.1; omega) HP.out.2.2.2.2 hNs)
      have HN : Hid (X3.length = i - j ∧ X2.length = j ∧ (A ++ Y1).length + (i - j) = md ∧ (A ++ Y1).length + (i - j) + j + B.length = N ∧ (A ++ Y1) ++ (X2 ++ (X3 ++ B)) = P ++ (Y ++ (X ++ S))) := by
        have h := HR.out
        have e := h.2.2.2.2
        rw [hX2] at e
        exact ⟨hl3, hl2, by rw [List.length_append]; omega, by rw [List.length_append]; omega, by rw [← e]; simp⟩
      have c1 : (md : Int) - (i : Int) = (A.length : Int) := by have := HR.out.2.2.1; omega
      have c2 : (md : Int) = ((A.length + j + X3.length : Nat) : Int) := by have := HR.out.2.2.1; omega
      have z1 : ¬ (i : Int) = (j : Int) := by omega
      have z2 : (j : Int) < (i : Int) := by omega
      have C12 := Lib.hid (And.intro c1 c2)
      clear hX2 hl2 hl3 hw HR c1 c2
      go_wp2_with fail
      refine (HC.out _ _ _ C12.out.1 C12.out.2 rfl).mono ?_
      rintro e W ⟨rfl, m', os', rfl⟩
      clear HC C12
      go_wp2
      go_roundw
      case rel => exact ⟨i - j, j, m', A ++ Y1, X3, X2, B, os', by go_num, rfl, by omega, hj, by omega, hj2, HN.out, by simp⟩
      case measure => simp [intOf]; omega
    · subst heq
      have HC := Lib.hid (fun za zb zn h1 h2 h3 => swapRange_at HH.out hg A X1 [] Y1 B N m cap j os fv za zb zn h1 h2 h3 HR.out.1 HR.out.2.1 (by have := HR.out.2.2.2.1; simp; omega) HP.out.2.2.2.2 hNs)
      have c1 : (md : Int) - (j : Int) = (A.length : Int) := by have := HR.out.2.2.1; omega
      have c2 : (md : Int) = ((A.length + j + ([] : List TagC).length : Nat) : Int) := by have := HR.out.2.2.1; simp; omega
      have C12 := Lib.hid (And.intro c1 c2)
      clear c1 c2
      go_wp2_with fail
      refine (HC.out _ _ _ C12.out.1 C12.out.2 rfl).mono ?_
      rintro e W ⟨rfl, m', os', rfl⟩
      go_wp2
      exact bodyPost_end (results_none rfl _ _ _) rfl ⟨rfl, m', os', by rw [← HR.out.2.2.2.2]⟩
    · obtain ⟨Y2, Y3, hY2, hl3⟩ : ∃ Y2 Y3, Y1 = Y2 ++ Y3 ∧ Y3.length = i := ⟨Y1.take (j - i), Y1.drop (j - i), (List.take_append_drop _ Y1).symm, by rw [List.length_drop, HR.out.2.1]; omega⟩
      have hl2 : Y2.length = j - i := by have h := HR.out.2.1; rw [hY2, List.length_append] at h; omega
      have hw : A ++ (X1 ++ (Y1 ++ B)) = A ++ (X1 ++ (Y2 ++ (Y3 ++ B))) := by rw [hY2]; simp
      rw [hw]
      have HC := Lib.hid (fun za zb zn h1 h2 h3 => swapRange_at HH.out hg A X1 Y2 Y3 B N m cap i os fv za zb zn h1 h2 h3 HR.out.1 hl3 (by have := HR.out.2.2.2.1; omega) HP.out.2.2.2.2 hNs)
      have HN : Hid (Y3.length = i ∧ Y2.length = j - i ∧ A.length + i = md ∧ A.length + i + (j - i) + (X1 ++ B).length = N ∧ A ++ (Y2 ++ (Y3 ++ (X1 ++ B))) = P ++ (Y ++ (X ++ S))) := by
        have h := HR.out
        have e := h.2.2.2.2
        rw [hY2] at e
        exact ⟨hl3, hl2, h.2.2.1, by rw [List.length_append]; omega, by rw [← e]; simp⟩
      have c1 : (md : Int) - (i : Int) = (A.length : Int) := by have := HR.out.2.2.1; omega
      have c2 : (md : Int) + (j : Int) - (i : Int) = ((A.length + i + Y2.length : Nat) : Int) := by have := HR.out.2.2.1; omega
      have z1 : ¬ (i : Int) = (j : Int) := by omega
      have z2 : ¬ (j : Int) < (i : Int) := by omega
      have C12 := Lib.hid (And.intro c1 c2)
      clear hY2 hl2 hl3 hw HR c1 c2
      go_wp2_with fail
      refine (HC.out _ _ _ C12.out.1 C12.out.2 rfl).mono ?_
      rintro e W ⟨rfl, m', os', rfl⟩
      clear HC C12
      go_wp2
      go_roundw
      case rel => exact ⟨i, j - i, m', A, Y3, Y2, X1 ++ B, os', rfl, by go_num, hi, by omega, hi2, by omega, HN.out, by simp⟩
      case measure => simp [intOf]; omega
end
end Go.Proofs.Ytlgkdonaplejdaa
