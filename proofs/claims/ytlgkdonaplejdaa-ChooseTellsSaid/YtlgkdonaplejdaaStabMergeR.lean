/- Two ranges that are sorted, laid together, where the second is of one: slices.symMergeCmpFunc, by contract. -/
import Derived.Test.YtlgkdonaplejdaaStabMerge
namespace Go.Proofs.Ytlgkdonaplejdaa
open Go.RowKit Go.Shelf Go.Sort Go.Lib

section
variable {w : World} {g : Nat} {d : Array TagC}
set_option maxRecDepth 100000 in
set_option maxHeartbeats 16000000 in
theorem symMerge_right (hH : HoldsK encC 4 w g 0 d) (hg : g < w.heap.size) (P L S : List TagC) (x : TagC) (N mm cap : Nat) (os : Array Obj) (za zm zb : Int) (ha : za = (P.length : Int)) (hm : zm = ((P.length + L.length : Nat) : Int)) (hb : zb = ((P.length + L.length + 1 : Nat) : Int)) (hL : 1 < L.length) (hN : P.length + L.length + 1 + S.length = N) (hd : d.size = N) (hNs : N < 1000000) (sL : L.Pairwise ltX) (hi : ∀ y ∈ L, y.2 < x.2) :
    Calls Try.prog 193 #[.slice (some ⟨g, 0, none⟩) N cap, .int .i64 za, .int .i64 zm, .int .i64 zb, .func (.func 125) #[] #[]] (SwC w g mm (P ++ (L ++ (x :: S))) os) (MergedC w g P L [x] S) := by
  have mixed : Try.prog.follows .mixedOrders = true := by kernel_rfl
  obtain ⟨a, hae⟩ : ∃ a : Nat, P.length = a := ⟨_, rfl⟩
  obtain ⟨md, hme⟩ : ∃ md : Nat, a + L.length = md := ⟨_, rfl⟩
  rw [hae] at ha hm hb hN
  rw [hme] at hm hb hN
  subst ha hm
  rw [show (((md + 1 : Nat)) : Int) = (md : Int) + 1 by omega] at hb
  subst hb
  have HH := Lib.hid hH
  have HP := Lib.hid (And.intro hae (And.intro hme (And.intro hN (And.intro hd hL))))
  have HS := Lib.hid (And.intro sL hi)
  have b1 : ((md : Int) - (a : Int) == 1) = false := beq_eq_false_iff_ne.2 (by omega)
  have b2 : (md : Int) + 1 - (md : Int) = 1 := by omega
  have b3 : md < N := by omega
  have b4 : a < md := by omega
  obtain ⟨D, hD⟩ : ∃ D, P ++ (L ++ (x :: S)) = D := ⟨_, rfl⟩
  rw [hD]
  have hx : D.toArray[md]! = x := by rw [← hD, ← List.append_assoc]; exact at_mid _ _ _ (by simp; omega)
  have hDl : D.length = N := by rw [← hD]; simp; omega
  have HD := Lib.hid (And.intro hD (And.intro hx hDl))
  clear hH hN hd hL hD hx hDl sL hi hae hme
  go_enter Try.func193, Try.ntmps193
  go_wp2
  go_loopw [14, 15] (fun vi vj wr => ∃ (i j m : Nat) (os : Array Obj), vi = .int .i64 i ∧ vj = .int .i64 j ∧ a ≤ i ∧ i ≤ j ∧ j ≤ md ∧ Hid ((i = a ∨ 0 ≤ cmpC x D.toArray[i - 1]!) ∧ (j = md ∨ cmpC x D.toArray[j]! < 0)) ∧ wr = SwC w g m D os) (fun vi vj _ => (intOf vj).toNat - (intOf vi).toNat)
  case atStart => exact ⟨a, md, mm, os, rfl, rfl, Nat.le_refl _, by omega, Nat.le_refl _, ⟨.inl rfl, .inl rfl⟩, rfl⟩
  case round =>
    obtain ⟨i, j, m, os, rfl, rfl, hi1, hij, hj1, HF, rfl⟩ := hrel
    by_cases hlt : i < j
    · obtain ⟨h, hh⟩ : ∃ h, (i + j) / 2 = h := ⟨_, rfl⟩
      have hh1 : i ≤ h ∧ h < j := by omega
      have z0 : (i : Int) < (j : Int) := by omega
      have hhz : ((i : Int) + (j : Int)) / 2 = (h : Int) := by omega
      have hHM := holdsC (m := m) (os := os) HH.out hg HP.out.2.2.2.1 HD.out.2.2
      have hDN := HD.out.2.2
      have gx := (CellC.of hHM (i := md) (by simp; omega)).grown (swC_size w g m D os hg)
      have gy := (CellC.of hHM (i := h) (by simp; omega)).grown (swC_size w g m D os hg)
      rw [HD.out.2.1] at gx
      obtain ⟨y, hy⟩ : ∃ y, D.toArray[h]! = y := ⟨_, rfl⟩
      rw [hy] at gy
      have HY := Lib.hid hy
      have HG := Lib.hid (fun n os' => swC_grown w g m n D os os')
      clear hHM hy hh hDN
      obtain ⟨⟨⟨⟨xa, xb⟩, xc⟩, xA, xn, xk⟩, xt⟩ := x
      obtain ⟨⟨⟨⟨ya, yb⟩, yc⟩, yA, yn, yk⟩, yt⟩ := y
      obtain ⟨x0, x1, x2, x3⟩ := gx
      obtain ⟨y0, y1, y2, y3⟩ := gy
      simp only at x0 x1 x2 x3 y0 y1 y2 y3
      have z1 : (h : Int) < (N : Int) := by omega
      have z2 : (md : Int) < (N : Int) := by omega
      by_cases hlv : cmpC ((((xa, xb), xc), xA, xn, xk), xt) ((((ya, yb), yc), yA, yn, yk), yt) < 0
      · go_wp2_with fail
        try rw [hhz]
        generalize SwC w g m D os = wq at *
        go_quiet_grown ((go_at_call 125; exact Calls.grown_of (compareC_at xa xb xc xA xn xk xt ya yb yc yA yn yk yt _)))
        rw [HG.out nq osq]
        go_wp2
        go_roundw
        case rel => exact ⟨i, h, m + nq, os ++ osq, rfl, by go_num, hi1, hh1.1, by omega, ⟨HF.out.1, .inr (by rw [HY.out]; exact hlv)⟩, rfl⟩
        case measure => simp [intOf]; omega
      · have hlb : decide (cmpC ((((xa, xb), xc), xA, xn, xk), xt) ((((ya, yb), yc), yA, yn, yk), yt) < 0) = false := decide_eq_false hlv
        have hlc : decide (0 ≤ cmpC ((((xa, xb), xc), xA, xn, xk), xt) ((((ya, yb), yc), yA, yn, yk), yt)) = true := decide_eq_true (by omega)
        go_wp2_with fail
        try rw [hhz]
        generalize SwC w g m D os = wq at *
        go_quiet_grown ((go_at_call 125; exact Calls.grown_of (compareC_at xa xb xc xA xn xk xt ya yb yc yA yn yk yt _)))
        rw [HG.out nq osq]
        go_wp2
        go_roundw
        case rel => exact ⟨h + 1, j, m + nq, os ++ osq, by go_num, rfl, by omega, by omega, hj1, ⟨.inr (by rw [Nat.add_sub_cancel, HY.out]; omega), HF.out.2⟩, rfl⟩
        case measure => simp [intOf]; omega
    · obtain rfl : i = j := by omega
      have HM := Lib.hid (fun L1 L2 h1 h2 => ins_right P L S x a i md HP.out.1 HP.out.2.1 D HD.out.1 hi1 hj1 HS.out.1 HS.out.2 HF.out.1 HF.out.2 L1 L2 h1 h2)
      have HR0 := Lib.hid (And.intro HP.out.1 (And.intro HP.out.2.1 HP.out.2.2.1))
      rw [← HD.out.1]
      clear HF
      go_wp2
      go_loopw [17] (fun v wr => ∃ (k m : Nat) (L1 L2 : List TagC) (os : Array Obj), v = .int .i64 k ∧ i ≤ k ∧ k ≤ md ∧ Hid (L = L1 ++ L2 ∧ L1.length = k - a) ∧ wr = SwC w g m (P ++ (L1 ++ (x :: (L2 ++ S)))) os) (fun v _ => (intOf v).toNat)
      case atStart => exact ⟨md, m, L, [], os, rfl, by omega, Nat.le_refl _, ⟨by simp, by have := HR0.out.2.1; omega⟩, rfl⟩
      case round =>
        obtain ⟨k, m, L1, L2, os, rfl, hk1, hk2, HR, rfl⟩ := hrel
        by_cases hlt : i < k
        · obtain ⟨k', rfl⟩ : ∃ k', k = k' + 1 := ⟨k - 1, by omega⟩
          have hl1 := HR.out.2
          obtain ⟨L0, y, rfl⟩ := snoc_of (L := L1) (fun e => by rw [e] at hl1; simp at hl1; omega)
          have hl0 : L0.length = k' - a := by simp at hl1; omega
          have hLe : L = L0 ++ y :: L2 := by rw [HR.out.1]; simp
          obtain ⟨M, hM⟩ : ∃ M, P ++ (L0 ++ [y] ++ (x :: (L2 ++ S))) = M := ⟨_, rfl⟩
          have hM2 : (P ++ L0) ++ y :: ([] ++ x :: (L2 ++ S)) = M := by rw [← hM]; simp
          have hp := HR0.out
          have hlL : L.length = L0.length + 1 + L2.length := by rw [hLe]; simp; omega
          have hMl : M.length = N := by rw [← hM2]; simp; omega
          have hk : k' = (P ++ L0).length := by simp; omega
          have hk' : k' + 1 = (P ++ L0).length + 1 + ([] : List TagC).length := by simp; omega
          have gx : M.toArray[k' + 1]! = x := by rw [← hM2]; exact at_mid2 _ _ _ _ _ hk'
          have gy : M.toArray[k']! = y := by rw [← hM2]; exact at_mid _ _ _ hk
          have hSW : swp M.toArray (k' + 1) k' = (P ++ (L0 ++ (x :: ((y :: L2) ++ S)))).toArray := by
            rw [swp_comm _ _ _ (by omega), ← hM2, hk', hk, swp_lists]
            simp
          have hHM := holdsC (m := m) (os := os) HH.out hg HP.out.2.2.2.1 hMl
          have cx := CellC.of hHM (i := k' + 1) (by simp; omega)
          have cy := CellC.of hHM (i := k') (by simp; omega)
          rw [gx] at cx
          rw [gy] at cy
          have HSW := Lib.hid (hSW ▸ stores_swp (m := m) (os := os) hg (show k' + 1 < M.length by omega) (show k' < M.length by omega) gx gy)
          have HN := Lib.hid (And.intro hLe hl0)
          rw [hM]
          clear gx gy hSW hHM hl1 hl0 hp hMl hk hk' hM2 hM HR hlL hLe
          generalize SwC w g m M os = W at *
          have cz := cy.behind (i := k' + 1) (by omega) (.int .u64 y.1.1.1.1) (.int .u64 y.1.1.1.2) (.int .i64 y.1.1.2) (.slice y.1.2.1 y.1.2.2.1 y.1.2.2.2)
          obtain ⟨⟨⟨⟨xa, xb⟩, xc⟩, xA, xn, xk⟩, xt⟩ := x
          obtain ⟨⟨⟨⟨ya, yb⟩, yc⟩, yA, yn, yk⟩, yt⟩ := y
          obtain ⟨x0, x1, x2, x3, f0, f1, f2, f3⟩ := cx
          obtain ⟨y0, y1, y2, y3, e0, e1, e2, e3⟩ := cy
          obtain ⟨z0, z1, z2, z3', -, -, -, -⟩ := cz
          simp only at x0 x1 x2 x3 y0 y1 y2 y3 z0 z1 z2 z3' HSW
          have tI : ((k' : Int)).toNat = k' := by omega
          have tJ : ((k' : Int) + 1).toNat = k' + 1 := by omega
          have bI : (k' : Int) < (N : Int) := by omega
          have bJ : (k' : Int) + 1 < (N : Int) := by omega
          have pI : (0 : Int) ≤ (k' : Int) := by omega
          have pJ : (0 : Int) ≤ (k' : Int) + 1 := by omega
          have cI : (i : Int) < (k' : Int) + 1 := by omega
          go_wp2_with fail
          go_region
          go_wp2
          go_roundw
          case rel => exact ⟨k', m + 1, L0, ((((ya, yb), yc), yA, yn, yk), yt) :: L2, os, by go_num, by omega, by omega, ⟨HN.out.1, HN.out.2⟩, HSW.out⟩
          case measure => simp [intOf]
        · have hke : k = i := by omega
          have HE := Lib.hid (HM.out L1 L2 HR.out.1 (by rw [HR.out.2]; omega))
          have hnl : ¬ (i : Int) < (k : Int) := by omega
          have HL : Hid (P ++ (L1 ++ (x :: (L2 ++ S))) = P ++ ((L1 ++ x :: L2) ++ S)) := by rw [Hid]; simp
          clear HM HR hke
          go_wp2
          exact bodyPost_ret (results_none rfl _ _ _) rfl ⟨L1 ++ x :: L2, HE.out.2, HE.out.1, rfl, m, os, by rw [HL.out]⟩
end

end Go.Proofs.Ytlgkdonaplejdaa
