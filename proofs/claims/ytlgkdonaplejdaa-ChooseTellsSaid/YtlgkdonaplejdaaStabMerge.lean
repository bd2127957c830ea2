/- Two ranges that are sorted, laid together: slices.symMergeCmpFunc at candidates, by contract. -/
import Derived.Test.YtlgkdonaplejdaaStabPlain
import Derived.Shelf.SlSortCmp.QuietGrown
import Derived.BigQuiet
import Derived.BigGuardPart
namespace Go.Proofs.Ytlgkdonaplejdaa
open Go.RowKit Go.Shelf Go.Sort Go.Lib

theorem compareC_at (xa xb xc : Int) (xA : Option Addr) (xn xk xt : Nat) (ya yb yc : Int) (yA : Option Addr) (yn yk yt : Nat) (W : World) :
    Calls Try.prog 125 #[.agg #[.int .u64 xa, .int .u64 xb, .int .i64 xc, .slice xA xn xk], .agg #[.int .u64 ya, .int .u64 yb, .int .i64 yc, .slice yA yn yk]] W fun e w' => e = .returned (.int .i64 (cmpC ((((xa, xb), xc), xA, xn, xk), xt) ((((ya, yb), yc), yA, yn, yk), yt))) ∧ Grown W w' :=
  compareC_any ((((xa, xb), xc), xA, xn, xk), xt) ((((ya, yb), yc), yA, yn, yk), yt) W
/-- The cells of one candidate in each world behind draws and new blocks. -/
structure CellG (W : World) (g i : Nat) (xa xb xc : Int) (xA : Option Addr) (xn xk : Nat) : Prop where
  c0 : ∀ n os, (grow (W.drewN n) os).cell? ⟨g, i * 4, none⟩ = some (.int .u64 xa)
  c1 : ∀ n os, (grow (W.drewN n) os).cell? ⟨g, i * 4 + 1, none⟩ = some (.int .u64 xb)
  c2 : ∀ n os, (grow (W.drewN n) os).cell? ⟨g, i * 4 + 2, none⟩ = some (.int .i64 xc)
  c3 : ∀ n os, (grow (W.drewN n) os).cell? ⟨g, i * 4 + 3, none⟩ = some (.slice xA xn xk)
theorem CellC.grown {W : World} {g i : Nat} {x : TagC} (h : CellC W g i x) (hg : g < W.heap.size) : CellG W g i x.1.1.1.1 x.1.1.1.2 x.1.1.2 x.1.2.1 x.1.2.2.1 x.1.2.2.2 :=
  ⟨fun n os => cell_grown (a := ⟨g, i * 4, none⟩) hg h.c0 n os, fun n os => cell_grown (a := ⟨g, i * 4 + 1, none⟩) hg h.c1 n os, fun n os => cell_grown (a := ⟨g, i * 4 + 2, none⟩) hg h.c2 n os, fun n os => cell_grown (a := ⟨g, i * 4 + 3, none⟩) hg h.c3 n os⟩
theorem swC_grown (w : World) (g m n : Nat) (L : List TagC) (os os' : Array Obj) : grow ((SwC w g m L os).drewN n) os' = SwC w g (m + n) L (os ++ os') := sortWorldK_grown_c encC 4 w g 0 m n L.toArray os os'
theorem swC_size (w : World) (g m : Nat) (L : List TagC) (os : Array Obj) (h : g < w.heap.size) : g < (SwC w g m L os).heap.size := Nat.lt_of_lt_of_le h (size_sortWorldK_c encC 4 w g 0 m L.toArray os)

/-- What laying two ranges together leaves. -/
def MergedC (w : World) (g : Nat) (P L R S : List TagC) (e : Ending) (W : World) : Prop := ∃ M : List TagC, M.Perm (L ++ R) ∧ M.Pairwise ltX ∧ RowC w g (P ++ (M ++ S)) e W

section
variable {w : World} {g : Nat} {d : Array TagC}
set_option maxRecDepth 100000 in
set_option maxHeartbeats 16000000 in
theorem symMerge_left (hH : HoldsK encC 4 w g 0 d) (hg : g < w.heap.size) (P R S : List TagC) (x : TagC) (N mm cap : Nat) (os : Array Obj) (za zm zb : Int) (ha : za = (P.length : Int)) (hm : zm = ((P.length + 1 : Nat) : Int)) (hb : zb = ((P.length + 1 + R.length : Nat) : Int)) (hR : 0 < R.length) (hN : P.length + 1 + R.length + S.length = N) (hd : d.size = N) (hNs : N < 1000000) (sR : R.Pairwise ltX) (hi : ∀ y ∈ R, x.2 < y.2) :
    Calls Try.prog 193 #[.slice (some ⟨g, 0, none⟩) N cap, .int .i64 za, .int .i64 zm, .int .i64 zb, .func (.func 125) #[] #[]] (SwC w g mm (P ++ (x :: (R ++ S))) os) (MergedC w g P [x] R S) := by
  have mixed : Try.prog.follows .mixedOrders = true := by kernel_rfl
  obtain ⟨a, hae⟩ : ∃ a : Nat, P.length = a := ⟨_, rfl⟩
  obtain ⟨b, hbe⟩ : ∃ b : Nat, a + 1 + R.length = b := ⟨_, rfl⟩
  rw [hae] at ha hm hb hN
  rw [hbe] at hb hN
  subst ha hb
  rw [show (((a + 1 : Nat)) : Int) = (a : Int) + 1 by omega] at hm
  subst hm
  have HH := Lib.hid hH
  have HP := Lib.hid (And.intro hae (And.intro hbe (And.intro hN (And.intro hd hR))))
  have HS := Lib.hid (And.intro sR hi)
  have b1 : (a : Int) + 1 - (a : Int) = 1 := by omega
  have b2 : b ≤ N := by omega
  have b3 : a + 1 < b := by omega
  obtain ⟨D, hD⟩ : ∃ D, P ++ (x :: (R ++ S)) = D := ⟨_, rfl⟩
  rw [hD]
  have hx : D.toArray[a]! = x := by rw [← hD]; exact at_mid _ _ _ hae.symm
  have hDl : D.length = N := by rw [← hD]; simp; omega
  have HD := Lib.hid (And.intro hD (And.intro hx hDl))
  clear hH hN hd hR hD hx hDl sR hi hae hbe
  go_enter Try.func193, Try.ntmps193
  go_wp2
  go_loopw [10, 11] (fun vi vj wr => ∃ (i j m : Nat) (os : Array Obj), vi = .int .i64 i ∧ vj = .int .i64 j ∧ a + 1 ≤ i ∧ i ≤ j ∧ j ≤ b ∧ Hid ((i = a + 1 ∨ cmpC D.toArray[i - 1]! x < 0) ∧ (j = b ∨ 0 ≤ cmpC D.toArray[j]! x)) ∧ wr = SwC w g m D os) (fun vi vj _ => (intOf vj).toNat - (intOf vi).toNat)
  case atStart => exact ⟨a + 1, b, mm, os, by go_num, rfl, Nat.le_refl _, by omega, Nat.le_refl _, ⟨.inl rfl, .inl rfl⟩, rfl⟩
  case round =>
    obtain ⟨i, j, m, os, rfl, rfl, hi1, hij, hj1, HF, rfl⟩ := hrel
    by_cases hlt : i < j
    · obtain ⟨h, hh⟩ : ∃ h, (i + j) / 2 = h := ⟨_, rfl⟩
      have hh1 : i ≤ h ∧ h < j := by omega
      have z0 : (i : Int) < (j : Int) := by omega
      have hhz : ((i : Int) + (j : Int)) / 2 = (h : Int) := by omega
      have hHM := holdsC (m := m) (os := os) HH.out hg HP.out.2.2.2.1 HD.out.2.2
      have hDN := HD.out.2.2
      have gx := (CellC.of hHM (i := a) (by simp; omega)).grown (swC_size w g m D os hg)
      have gy := (CellC.of hHM (i := h) (by simp; omega)).grown (swC_size w g m D os hg)
      rw [HD.out.2.1] at gx
      have HYE : Hid (D.toArray[h]! = D.toArray[h]!) := rfl
      obtain ⟨y, hy⟩ : ∃ y, D.toArray[h]! = y := ⟨_, rfl⟩
      rw [hy] at gy
      have HY := Lib.hid hy
      have HG := Lib.hid (fun n os' => swC_grown w g m n D os os')
      clear hHM hy HYE hh hDN
      obtain ⟨⟨⟨⟨xa, xb⟩, xc⟩, xA, xn, xk⟩, xt⟩ := x
      obtain ⟨⟨⟨⟨ya, yb⟩, yc⟩, yA, yn, yk⟩, yt⟩ := y
      obtain ⟨x0, x1, x2, x3⟩ := gx
      obtain ⟨y0, y1, y2, y3⟩ := gy
      simp only at x0 x1 x2 x3 y0 y1 y2 y3
      have z1 : (h : Int) < (N : Int) := by omega
      have z2 : (a : Int) < (N : Int) := by omega
      by_cases hlv : cmpC ((((ya, yb), yc), yA, yn, yk), yt) ((((xa, xb), xc), xA, xn, xk), xt) < 0
      · go_wp2_with fail
        try rw [hhz]
        generalize SwC w g m D os = wq at *
        go_quiet_grown ((go_at_call 125; exact Calls.grown_of (compareC_at ya yb yc yA yn yk yt xa xb xc xA xn xk xt _)))
        rw [HG.out nq osq]
        go_wp2
        go_roundw
        case rel => exact ⟨h + 1, j, m + nq, os ++ osq, by go_num, rfl, by omega, by omega, hj1, ⟨.inr (by rw [Nat.add_sub_cancel, HY.out]; exact hlv), HF.out.2⟩, rfl⟩
        case measure => simp [intOf]; omega
      · go_wp2_with fail
        try rw [hhz]
        generalize SwC w g m D os = wq at *
        go_quiet_grown ((go_at_call 125; exact Calls.grown_of (compareC_at ya yb yc yA yn yk yt xa xb xc xA xn xk xt _)))
        rw [HG.out nq osq]
        go_wp2
        go_roundw
        case rel => exact ⟨i, h, m + nq, os ++ osq, rfl, by go_num, hi1, hh1.1, by omega, ⟨HF.out.1, .inr (by rw [HY.out]; omega)⟩, rfl⟩
        case measure => simp [intOf]; omega
    · obtain rfl : i = j := by omega
      have hDN := HD.out.2.2
      obtain ⟨i1, hi1e⟩ : ∃ i1, i - 1 = i1 := ⟨_, rfl⟩
      have HM := Lib.hid (fun R1 R2 h1 h2 => ins_left P R S x a i b HP.out.1 HP.out.2.1 D HD.out.1 hi1 hj1 HS.out.1 HS.out.2 HF.out.1 HF.out.2 R1 R2 h1 h2)
      have hi2 : a ≤ i1 ∧ i1 < b := by omega
      have HI := Lib.hid (show i = i1 + 1 by omega)
      have HR0 := Lib.hid (And.intro HP.out.1 (And.intro HP.out.2.1 HP.out.2.2.1))
      rw [← HD.out.1]
      clear HF hDN hi1e
      go_wp2
      go_loopw [13] (fun v wr => ∃ (k m : Nat) (R1 R2 : List TagC) (os : Array Obj), v = .int .i64 k ∧ a ≤ k ∧ k ≤ i1 ∧ Hid (R = R1 ++ R2 ∧ R1.length = k - a) ∧ wr = SwC w g m (P ++ (R1 ++ (x :: (R2 ++ S)))) os) (fun v _ => i1 - (intOf v).toNat)
      case atStart => exact ⟨a, m, [], R, os, rfl, Nat.le_refl _, hi2.1, ⟨rfl, by simp⟩, rfl⟩
      case round =>
        obtain ⟨k, m, R1, R2, os, rfl, hk1, hk2, HR, rfl⟩ := hrel
        by_cases hlt : k < i1
        · obtain ⟨y, R3, rfl, hR3⟩ := split_next HR.out.1 HR.out.2 (by have := HR0.out; omega)
          obtain ⟨M, hM⟩ : ∃ M, P ++ (R1 ++ (x :: (y :: R3 ++ S))) = M := ⟨_, rfl⟩
          have hM2 : (P ++ R1) ++ x :: ([] ++ y :: (R3 ++ S)) = M := by rw [← hM]; simp
          have hl1 := HR.out.2
          have hp := HR0.out
          have hlR : R.length = R1.length + 1 + R3.length := by rw [hR3]; simp; omega
          have hMl : M.length = N := by rw [← hM2]; simp; omega
          have hk : k = (P ++ R1).length := by simp; omega
          have hk' : k + 1 = (P ++ R1).length + 1 + ([] : List TagC).length := by simp; omega
          have gx : M.toArray[k]! = x := by rw [← hM2]; exact at_mid _ _ _ hk
          have gy : M.toArray[k + 1]! = y := by rw [← hM2]; exact at_mid2 _ _ _ _ _ hk'
          have hSW : swp M.toArray k (k + 1) = (P ++ ((R1 ++ [y]) ++ (x :: (R3 ++ S)))).toArray := by
            rw [← hM2, hk', hk, swp_lists]
            simp
          have hHM := holdsC (m := m) (os := os) HH.out hg HP.out.2.2.2.1 hMl
          have cx := CellC.of hHM (i := k) (by simp; omega)
          have cy := CellC.of hHM (i := k + 1) (by simp; omega)
          rw [gx] at cx
          rw [gy] at cy
          have HSW := Lib.hid (hSW ▸ stores_swp (m := m) (os := os) hg (show k < M.length by omega) (show k + 1 < M.length by omega) gx gy)
          have HN := Lib.hid (And.intro hR3 hl1)
          rw [hM]
          clear gx gy hSW hHM hl1 hp hMl hk hk' hM2 hM HR hlR hR3
          generalize SwC w g m M os = W at *
          have cz := cy.behind (i := k) (by omega) (.int .u64 y.1.1.1.1) (.int .u64 y.1.1.1.2) (.int .i64 y.1.1.2) (.slice y.1.2.1 y.1.2.2.1 y.1.2.2.2)
          obtain ⟨⟨⟨⟨xa, xb⟩, xc⟩, xA, xn, xk⟩, xt⟩ := x
          obtain ⟨⟨⟨⟨ya, yb⟩, yc⟩, yA, yn, yk⟩, yt⟩ := y
          obtain ⟨x0, x1, x2, x3, f0, f1, f2, f3⟩ := cx
          obtain ⟨y0, y1, y2, y3, e0, e1, e2, e3⟩ := cy
          obtain ⟨z0, z1, z2, z3', -, -, -, -⟩ := cz
          simp only at x0 x1 x2 x3 y0 y1 y2 y3 z0 z1 z2 z3' HSW
          have tI : ((k : Int)).toNat = k := by omega
          have tJ : ((k : Int) + 1).toNat = k + 1 := by omega
          have bI : (k : Int) < (N : Int) := by omega
          have bJ : (k : Int) + 1 < (N : Int) := by omega
          have pI : (0 : Int) ≤ (k : Int) := by omega
          have pJ : (0 : Int) ≤ (k : Int) + 1 := by omega
          have cI : (k : Int) < (i : Int) - 1 := by have := HI.out; omega
          go_wp2_with fail
          go_region
          go_wp2
          go_roundw
          case rel => exact ⟨k + 1, m + 1, R1 ++ [((((ya, yb), yc), yA, yn, yk), yt)], R3, os, by go_num, by omega, by omega, ⟨HN.out.1, by rw [List.length_append, HN.out.2]; simp; omega⟩, HSW.out⟩
          case measure => simp [intOf]; omega
        · have hke : k = i1 := by omega
          have HE := Lib.hid (HM.out R1 R2 HR.out.1 (by have := HI.out; rw [HR.out.2]; omega))
          have hnl : ¬ (k : Int) < (i : Int) - 1 := by have := HI.out; omega
          have HL : Hid (P ++ (R1 ++ (x :: (R2 ++ S))) = P ++ ((R1 ++ x :: R2) ++ S)) := by rw [Hid]; simp
          clear HM HR
          go_wp2
          exact bodyPost_ret (results_none rfl _ _ _) rfl ⟨R1 ++ x :: R2, HE.out.2, HE.out.1, rfl, m, os, by rw [HL.out]⟩
end

end Go.Proofs.Ytlgkdonaplejdaa
