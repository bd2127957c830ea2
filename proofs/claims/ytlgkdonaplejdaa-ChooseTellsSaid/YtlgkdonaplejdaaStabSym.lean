/- Two ranges that are sorted, laid together: slices.symMergeCmpFunc at candidates, by contract. (Its leaves are written by program: wip/tools/mksym.py.) -/
import Derived.Test.YtlgkdonaplejdaaStabMergeR
namespace Go.Proofs.Ytlgkdonaplejdaa
open Go.RowKit Go.Shelf Go.Sort Go.Lib

section
variable {w : World} {g : Nat} {d : Array TagC}
/-- What laying together is asked with, up to a length. -/
def SymOk (w : World) (g N cap n : Nat) : Prop := ∀ (P L R S : List TagC) (mm : Nat) (os : Array Obj) (za zm zb : Int), L.length + R.length ≤ n → 0 < L.length → 0 < R.length → za = (P.length : Int) → zm = ((P.length + L.length : Nat) : Int) → zb = ((P.length + L.length + R.length : Nat) : Int) → P.length + L.length + R.length + S.length = N → L.Pairwise ltX → R.Pairwise ltX → (∀ x ∈ L, ∀ y ∈ R, x.2 < y.2) →
  Calls Try.prog 193 #[.slice (some ⟨g, 0, none⟩) N cap, .int .i64 za, .int .i64 zm, .int .i64 zb, .func (.func 125) #[] #[]] (SwC w g mm (P ++ (L ++ (R ++ S))) os) (MergedC w g P L R S)

set_option maxRecDepth 100000 in
set_option maxHeartbeats 32000000 in
theorem symMerge_step (hH : HoldsK encC 4 w g 0 d) (hg : g < w.heap.size) (N cap n : Nat) (hd : d.size = N) (hNs : N < 1000000) (IH : SymOk w g N cap n) (P L R S : List TagC) (mm : Nat) (os : Array Obj) (a md b mid nn lo hi : Nat) (hn : L.length + R.length ≤ n + 1) (hL : 1 < L.length) (hR : 1 < R.length) (ha : P.length = a) (hm : a + L.length = md) (hb : md + R.length = b) (hN : b + S.length = N) (sL : L.Pairwise ltX) (sR : R.Pairwise ltX) (hix : ∀ x ∈ L, ∀ y ∈ R, x.2 < y.2)
    (hmid : (a + b) / 2 = mid) (hnn : mid + md = nn) (hcase : (mid < md ∧ nn - b = lo ∧ hi = mid) ∨ (¬ mid < md ∧ lo = a ∧ hi = md)) :
    Calls Try.prog 193 #[.slice (some ⟨g, 0, none⟩) N cap, .int .i64 a, .int .i64 md, .int .i64 b, .func (.func 125) #[] #[]] (SwC w g mm (P ++ (L ++ (R ++ S))) os) (MergedC w g P L R S) := by
  have mixed : Try.prog.follows .mixedOrders = true := by kernel_rfl
  have HH := Lib.hid hH
  have HIH := Lib.hid IH
  have HP := Lib.hid (And.intro ha (And.intro hm (And.intro hb (And.intro hN (And.intro hd hn)))))
  have HS := Lib.hid (And.intro sL (And.intro sR hix))
  have b1 : ((md : Int) - (a : Int) == 1) = false := beq_eq_false_iff_ne.2 (by omega)
  have b2 : ((b : Int) - (md : Int) == 1) = false := beq_eq_false_iff_ne.2 (by omega)
  have b3 : a < md ∧ md < b ∧ b ≤ N := by omega
  have HRL := Lib.hid (show md + 1 < b by omega)
  have hmz : ((a : Int) + (b : Int)) / 2 = (mid : Int) := by omega
  have hnz : (mid : Int) + (md : Int) = (nn : Int) := by omega
  obtain ⟨pp, hpp⟩ : ∃ pp, nn = pp + 1 := ⟨nn - 1, by omega⟩
  have HNN := Lib.hid hpp
  have hpz : (nn : Int) - 1 = (pp : Int) := by omega
  have HK := Lib.hid (show a ≤ lo ∧ lo ≤ hi ∧ hi ≤ md ∧ md ≤ nn - hi ∧ nn - lo ≤ b ∧ lo ≤ nn ∧ hi ≤ nn ∧ (lo = a ∨ nn - lo = b) ∧ (hi = md ∨ nn - hi = md) ∧ a ≤ mid ∧ mid ≤ b ∧ mid + md = nn by omega)
  obtain ⟨D, hD⟩ : ∃ D, P ++ (L ++ (R ++ S)) = D := ⟨_, rfl⟩
  rw [hD]
  have hDl : D.length = N := by rw [← hD]; simp; omega
  have HD := Lib.hid (And.intro hD hDl)
  have HC : Hid ((mid < md ∧ (nn : Int) - (b : Int) = (lo : Int) ∧ hi = mid) ∨ (¬ mid < md ∧ lo = a ∧ hi = md)) := by rw [Hid]; omega
  clear hH hN hd hL hR hD hDl sL sR hix ha hm hb hn hcase IH hpp hmid hnn
  have hstart : (((mid : Int) < (md : Int) ∧ (nn : Int) - (b : Int) = (lo : Int)) ∧ Hid (hi = mid)) ∨ ((¬ (mid : Int) < (md : Int)) ∧ Hid (lo = a ∧ hi = md)) := by
    rcases HC.out with ⟨h1, h2, h3⟩ | ⟨h1, h2, h3⟩
    · exact .inl ⟨⟨by omega, h2⟩, h3⟩
    · exact .inr ⟨by omega, h2, h3⟩
  clear HC
  rcases hstart with ⟨⟨y1, y2⟩, HE⟩ | ⟨y1, HE⟩
  all_goals
    go_enter Try.func193, Try.ntmps193
    go_wp2
    go_loopw [20, 21] (fun vi vj wr => ∃ (s r m : Nat) (os : Array Obj), vi = .int .i64 s ∧ vj = .int .i64 r ∧ lo ≤ s ∧ s ≤ r ∧ r ≤ hi ∧ Hid ((s = lo ∨ 0 ≤ cmpC D.toArray[nn - s]! D.toArray[s - 1]!) ∧ (r = hi ∨ cmpC D.toArray[nn - r - 1]! D.toArray[r]! < 0)) ∧ wr = SwC w g m D os) (fun vi vj _ => (intOf vj).toNat - (intOf vi).toNat)
    case atStart => exact ⟨lo, hi, mm, os, by first | rfl | rw [HE.out.1], by first | rfl | rw [HE.out] | rw [HE.out.2], Nat.le_refl _, HK.out.2.1, Nat.le_refl _, ⟨.inl rfl, .inl rfl⟩, rfl⟩
    case round =>
      obtain ⟨s, r, m, os, rfl, rfl, hs1, hsr, hr1, HF, rfl⟩ := hrel
      have k1 := HK.out.1
      have k2 := HK.out.2.2.1
      have k3 := HK.out.2.2.2.1
      have k4 := HK.out.2.2.2.2.1
      have k5 := HK.out.2.2.2.2.2.1
      have k6 := HK.out.2.2.2.2.2.2.1
      have k7 := HK.out.2.2.2.2.2.2.2.2.2
      by_cases hlt : s < r
      · obtain ⟨c, hc⟩ : ∃ c, (s + r) / 2 = c := ⟨_, rfl⟩
        have hc1 : s ≤ c ∧ c < r := by omega
        have hnp := HNN.out
        obtain ⟨q, hq⟩ : ∃ q, pp - c = q := ⟨_, rfl⟩
        have hq1 : md ≤ q ∧ q < b := by omega
        have z0 : (s : Int) < (r : Int) := by omega
        have hhz : ((s : Int) + (r : Int)) / 2 = (c : Int) := by omega
        have hqz : (pp : Int) - (c : Int) = (q : Int) := by omega
        have hHM := holdsC (m := m) (os := os) HH.out hg HP.out.2.2.2.2.1 HD.out.2
        have hDN := HD.out.2
        have gx := (CellC.of hHM (i := q) (by simp; omega)).grown (swC_size w g m D os hg)
        have gy := (CellC.of hHM (i := c) (by simp; omega)).grown (swC_size w g m D os hg)
        obtain ⟨x, hx⟩ : ∃ x, D.toArray[q]! = x := ⟨_, rfl⟩
        rw [hx] at gx
        obtain ⟨y, hy⟩ : ∃ y, D.toArray[c]! = y := ⟨_, rfl⟩
        rw [hy] at gy
        have HXY := Lib.hid (And.intro hx (And.intro hy (show nn - (c + 1) = q ∧ nn - c - 1 = q by omega)))
        have HG := Lib.hid (fun n os' => swC_grown w g m n D os os')
        clear hHM hx hy hc hDN hq hnp k7
        obtain ⟨⟨⟨⟨xa, xb⟩, xc⟩, xA, xn, xk⟩, xt⟩ := x
        obtain ⟨⟨⟨⟨ya, yb⟩, yc⟩, yA, yn, yk⟩, yt⟩ := y
        obtain ⟨x0, x1, x2, x3⟩ := gx
        obtain ⟨y0, y1', y2', y3⟩ := gy
        simp only at x0 x1 x2 x3 y0 y1' y2' y3
        have z1 : (q : Int) < (N : Int) := by omega
        have z2 : (c : Int) < (N : Int) := by omega
        have eW1 : IntKind.i64.wrap ((pp : Int) - (c : Int)) = (q : Int) := by rw [IntWalk.i64_in _ (by omega)]; omega
        have eW2 : IntKind.i64.wrap (q : Int) = (q : Int) := IntWalk.i64_in _ (by omega)
        by_cases hlv : cmpC ((((xa, xb), xc), xA, xn, xk), xt) ((((ya, yb), yc), yA, yn, yk), yt) < 0
        · go_wp2_with fail
          try rw [hhz]
          generalize SwC w g m D os = wq at *
          go_quiet_grown ((go_at_call 125; exact Calls.grown_of (compareC_at xa xb xc xA xn xk xt ya yb yc yA yn yk yt _)))
          rw [HG.out nq osq]
          go_wp2
          go_roundw
          case rel => exact ⟨s, c, m + nq, os ++ osq, rfl, by go_num, hs1, hc1.1, by omega, ⟨HF.out.1, .inr (by rw [HXY.out.2.2.2, HXY.out.1, HXY.out.2.1]; exact hlv)⟩, rfl⟩
          case measure => simp [intOf]; omega
        · have hlb : decide (cmpC ((((xa, xb), xc), xA, xn, xk), xt) ((((ya, yb), yc), yA, yn, yk), yt) < 0) = false := decide_eq_false hlv
          have hlc : decide (0 ≤ cmpC ((((xa, xb), xc), xA, xn, xk), xt) ((((ya, yb), yc), yA, yn, yk), yt)) = true := decide_eq_true (by omega)
          go_wp2_with fail
          try rw [hhz]
          generalize SwC w g m D os = wq at *
          go_quiet_grown ((go_at_call 125; exact Calls.grown_of (compareC_at xa xb xc xA xn xk xt ya yb yc yA yn yk yt _)))
          rw [HG.out nq osq]
          go_wp2
          go_roundw
          case rel => exact ⟨c + 1, r, m + nq, os ++ osq, by go_num, rfl, by omega, by omega, hr1, ⟨.inr (by rw [Nat.add_sub_cancel, HXY.out.2.2.1, HXY.out.1, HXY.out.2.1]; omega), HF.out.2⟩, rfl⟩
          case measure => simp [intOf]; omega
      · obtain rfl : s = r := by omega
        obtain ⟨e, he⟩ : ∃ e, nn - s = e := ⟨_, rfl⟩
        have hez : (nn : Int) - (s : Int) = (e : Int) := by omega
        have hnz0 : ¬ (s : Int) < (s : Int) := by omega
        have hpa := HP.out.1
        have hpm := HP.out.2.1
        have hpb := HP.out.2.2.1
        have he1 : md ≤ e ∧ e ≤ b := by omega
        have hse : s + e = mid + md := by omega
        have F1 : s = a ∨ e = b ∨ 0 ≤ cmpC D.toArray[e]! D.toArray[s - 1]! := by
          rcases HF.out.1 with h | h
          · rcases HK.out.2.2.2.2.2.2.2.1 with h2 | h2
            · exact .inl (by omega)
            · exact .inr (.inl (by omega))
          · rw [he] at h
            exact .inr (.inr h)
        have F2 : s = md ∨ e = md ∨ cmpC D.toArray[e - 1]! D.toArray[s]! < 0 := by
          rcases HF.out.2 with h | h
          · rcases HK.out.2.2.2.2.2.2.2.2.1 with h2 | h2
            · exact .inl (by omega)
            · exact .inr (.inl (by omega))
          · rw [he] at h
            exact .inr (.inr h)
        obtain ⟨L1, L2, R1, R2, hL12, hR12, l1, r1, hahead⟩ := sym_split P L R S a md b s e hpa.symm hpm.symm hpb.symm (by omega) (by omega) he1.1 he1.2 HS.out.1 HS.out.2.1 HS.out.2.2 D.toArray (by rw [← HD.out.1]) F1 F2
        have l2 : L2.length = md - s := by have h := congrArg List.length hL12; rw [List.length_append] at h; omega
        have r2 : R2.length = b - e := by have h := congrArg List.length hR12; rw [List.length_append] at h; omega
        have hLs := HS.out.1
        have hRs := HS.out.2.1
        rw [hL12, List.pairwise_append] at hLs
        rw [hR12, List.pairwise_append] at hRs
        have HSS := Lib.hid (And.intro hLs.1 (And.intro hLs.2.1 (And.intro hRs.1 hRs.2.1)))
        have hi1 : ∀ x ∈ L1, ∀ y ∈ R1, x.2 < y.2 := fun x hx y hy => HS.out.2.2 x (by rw [hL12]; exact List.mem_append_left _ hx) y (by rw [hR12]; exact List.mem_append_left _ hy)
        have hi2 : ∀ x ∈ L2, ∀ y ∈ R2, x.2 < y.2 := fun x hx y hy => HS.out.2.2 x (by rw [hL12]; exact List.mem_append_right _ hx) y (by rw [hR12]; exact List.mem_append_right _ hy)
        have HIX := Lib.hid (And.intro hi1 hi2)
        have HAH := Lib.hid hahead
        have HE12 := Lib.hid (And.intro hL12 hR12)
        have HDA : Hid (D = P ++ (L1 ++ (L2 ++ (R1 ++ (R2 ++ S))))) := by rw [Hid, ← HD.out.1, hL12, hR12]; simp
        have m1 : a + L1.length = s := by omega
        have m2 : s + L2.length = md := by omega
        have m3 : md + R1.length = e := by omega
        have m4 : e + R2.length = b := by omega
        have HLL := Lib.hid (And.intro m1 (And.intro m2 (And.intro m3 m4)))
        have HPP := Lib.hid (And.intro HP.out.1 (And.intro HP.out.2.1 (And.intro HP.out.2.2.1 (And.intro HP.out.2.2.2.1 HP.out.2.2.2.2.2))))
        have hsa : a ≤ s ∧ s ≤ md := by omega
        clear F1 F2 HF hLs hRs hi1 hi2 hahead hL12 hR12 k1 k2 k3 k4 k5 k6 k7 l1 l2 r1 r2 m1 m2 m3 m4 hs1 hsr hr1 he hpa hpm hpb hlt
        by_cases q1 : a < s
        · by_cases q2 : s < md
          · by_cases q3 : md < e
            · by_cases q4 : e < b
              · first
                  | exfalso
                    have := HLL.out
                    omega
                  | have i1 : (s : Int) < (md : Int) := by omega
                    have i2 : (md : Int) < (e : Int) := by omega
                    have i3 : (a : Int) < (s : Int) := by omega
                    have i4 : (s : Int) < (mid : Int) := by omega
                    have i5 : (mid : Int) < (e : Int) := by omega
                    have i6 : (e : Int) < (b : Int) := by omega
                    have HRO := Lib.hid (fun za zm zb h1 h2 h3 => rotate_any HH.out hg (P ++ L1) L2 R1 (R2 ++ S) N m cap os (.func (.func 125) #[] #[]) za zm zb h1 h2 h3 (by have := HLL.out; omega) (by have := HLL.out; omega) (by have := HLL.out; have := HPP.out; rw [List.length_append, List.length_append]; omega) HP.out.2.2.2.2.1 hNs)
                    rw [List.append_assoc, List.append_assoc, List.length_append] at HRO
                    have j1 : (s : Int) = ((P.length + L1.length : Nat) : Int) := by have := HLL.out; have := HPP.out; omega
                    have j2 : (md : Int) = ((P.length + L1.length + L2.length : Nat) : Int) := by have := HLL.out; have := HPP.out; omega
                    have j3 : (e : Int) = ((P.length + L1.length + L2.length + R1.length : Nat) : Int) := by have := HLL.out; have := HPP.out; omega
                    have HR1 := Lib.hid (HRO.out _ _ _ j1 j2 j3)
                    clear j1 j2 j3 HRO
                    rw [HDA.out]
                    go_wp2_with fail
                    refine Calls.mono HR1.out ?_
                    rintro e' W1 ⟨rfl, m1, os1, rfl⟩
                    clear HDA HR1
                    have j1 : (a : Int) = (P.length : Int) := by have := HPP.out; omega
                    have j2 : (s : Int) = ((P.length + L1.length : Nat) : Int) := by have := HLL.out; have := HPP.out; omega
                    have j3 : (mid : Int) = ((P.length + L1.length + R1.length : Nat) : Int) := by have := HLL.out; have := HPP.out; omega
                    have HR2 := Lib.hid (fun mm os => HIH.out P L1 R1 (L2 ++ (R2 ++ S)) mm os _ _ _ (by have := HLL.out; have := HPP.out; omega) (by have := HLL.out; omega) (by have := HLL.out; omega) j1 j2 j3 (by have := HLL.out; have := HPP.out; rw [List.length_append, List.length_append]; omega) HSS.out.1 HSS.out.2.2.1 HIX.out.1)
                    clear j1 j2 j3
                    go_wp2_with fail
                    refine Calls.mono (HR2.out _ _) ?_
                    rintro e' W2 ⟨M1, pm1, sm1, rfl, m2, os2, rfl⟩
                    have lM : M1.length = L1.length + R1.length := by have h := pm1.length_eq; rw [List.length_append] at h; exact h
                    have HM1 := Lib.hid (And.intro pm1 (And.intro sm1 lM))
                    clear pm1 sm1 lM
                    have j1 : (mid : Int) = ((P.length + M1.length : Nat) : Int) := by have := HLL.out; have := HPP.out; have := HM1.out.2.2; omega
                    have j2 : (e : Int) = ((P.length + M1.length + L2.length : Nat) : Int) := by have := HLL.out; have := HPP.out; have := HM1.out.2.2; omega
                    have j3 : (b : Int) = ((P.length + M1.length + L2.length + R2.length : Nat) : Int) := by have := HLL.out; have := HPP.out; have := HM1.out.2.2; omega
                    have HR3 := Lib.hid (fun mm os za zm zb h1 h2 h3 => HIH.out (P ++ M1) L2 R2 S mm os za zm zb (by have := HLL.out; have := HPP.out; omega) (by have := HLL.out; omega) (by have := HLL.out; omega) h1 h2 h3 (by have := HLL.out; have := HPP.out; have := HM1.out.2.2; rw [List.length_append]; omega) HSS.out.2.1 HSS.out.2.2.2 HIX.out.2)
                    simp only [List.append_assoc, List.length_append] at HR3
                    have HR4 := Lib.hid (fun mm os => HR3.out mm os _ _ _ j1 j2 j3)
                    clear j1 j2 j3 HR3
                    go_wp2_with fail
                    refine Calls.mono (HR4.out _ _) ?_
                    rintro e' W3 ⟨M2, pm2, sm2, rfl, m3, os3, hW3⟩
                    rw [List.append_assoc] at hW3
                    subst hW3
                    have HJ := Lib.hid (sym_join HM1.out.1 pm2 HM1.out.2.1 sm2 HAH.out)
                    rw [← HE12.out.1, ← HE12.out.2] at HJ
                    clear pm2 sm2 HM1 HLL HSS HIX HAH
                    go_wp2
                    exact bodyPost_end (results_none rfl _ _ _) rfl ⟨M1 ++ M2, HJ.out.2, HJ.out.1, rfl, _, _, by rw [List.append_assoc]⟩
              · first
                  | exfalso
                    have := HLL.out
                    omega
                  | have i1 : (s : Int) < (md : Int) := by omega
                    have i2 : (md : Int) < (e : Int) := by omega
                    have i3 : (a : Int) < (s : Int) := by omega
                    have i4 : (s : Int) < (mid : Int) := by omega
                    have i5 : (mid : Int) < (e : Int) := by omega
                    have i6 : ¬ (e : Int) < (b : Int) := by omega
                    have HRO := Lib.hid (fun za zm zb h1 h2 h3 => rotate_any HH.out hg (P ++ L1) L2 R1 (R2 ++ S) N m cap os (.func (.func 125) #[] #[]) za zm zb h1 h2 h3 (by have := HLL.out; omega) (by have := HLL.out; omega) (by have := HLL.out; have := HPP.out; rw [List.length_append, List.length_append]; omega) HP.out.2.2.2.2.1 hNs)
                    rw [List.append_assoc, List.append_assoc, List.length_append] at HRO
                    have j1 : (s : Int) = ((P.length + L1.length : Nat) : Int) := by have := HLL.out; have := HPP.out; omega
                    have j2 : (md : Int) = ((P.length + L1.length + L2.length : Nat) : Int) := by have := HLL.out; have := HPP.out; omega
                    have j3 : (e : Int) = ((P.length + L1.length + L2.length + R1.length : Nat) : Int) := by have := HLL.out; have := HPP.out; omega
                    have HR1 := Lib.hid (HRO.out _ _ _ j1 j2 j3)
                    clear j1 j2 j3 HRO
                    rw [HDA.out]
                    go_wp2_with fail
                    refine Calls.mono HR1.out ?_
                    rintro e' W1 ⟨rfl, m1, os1, rfl⟩
                    clear HDA HR1
                    have j1 : (a : Int) = (P.length : Int) := by have := HPP.out; omega
                    have j2 : (s : Int) = ((P.length + L1.length : Nat) : Int) := by have := HLL.out; have := HPP.out; omega
                    have j3 : (mid : Int) = ((P.length + L1.length + R1.length : Nat) : Int) := by have := HLL.out; have := HPP.out; omega
                    have HR2 := Lib.hid (fun mm os => HIH.out P L1 R1 (L2 ++ (R2 ++ S)) mm os _ _ _ (by have := HLL.out; have := HPP.out; omega) (by have := HLL.out; omega) (by have := HLL.out; omega) j1 j2 j3 (by have := HLL.out; have := HPP.out; rw [List.length_append, List.length_append]; omega) HSS.out.1 HSS.out.2.2.1 HIX.out.1)
                    clear j1 j2 j3
                    go_wp2_with fail
                    refine Calls.mono (HR2.out _ _) ?_
                    rintro e' W2 ⟨M1, pm1, sm1, rfl, m2, os2, rfl⟩
                    have lM : M1.length = L1.length + R1.length := by have h := pm1.length_eq; rw [List.length_append] at h; exact h
                    have HM1 := Lib.hid (And.intro pm1 (And.intro sm1 lM))
                    clear pm1 sm1 lM
                    have hz : R2 = [] := List.eq_nil_of_length_eq_zero (by have := HLL.out.2.2.2; omega)
                    obtain ⟨M2, hM2, pm2, sm2⟩ : ∃ M2, L2 ++ R2 = M2 ∧ M2.Perm (L2 ++ R2) ∧ M2.Pairwise ltX := ⟨L2 ++ R2, rfl, List.Perm.refl _, by rw [hz]; simpa using HSS.out.2.1⟩
                    rw [show P ++ (M1 ++ (L2 ++ (R2 ++ S))) = P ++ (M1 ++ (M2 ++ S)) by rw [← hM2]; simp]
                    clear hz hM2
                    have HJ := Lib.hid (sym_join HM1.out.1 pm2 HM1.out.2.1 sm2 HAH.out)
                    rw [← HE12.out.1, ← HE12.out.2] at HJ
                    clear pm2 sm2 HM1 HLL HSS HIX HAH
                    go_wp2
                    exact bodyPost_end (results_none rfl _ _ _) rfl ⟨M1 ++ M2, HJ.out.2, HJ.out.1, rfl, _, _, by rw [List.append_assoc]⟩
            · have q4 : e < b := by have := HLL.out; have := HPP.out; have := HRL.out; omega
              first
                | exfalso
                  have := HLL.out
                  omega
                | have i1 : (s : Int) < (md : Int) := by omega
                  have i2 : ¬ (md : Int) < (e : Int) := by omega
                  have i3 : (a : Int) < (s : Int) := by omega
                  have i4 : ¬ (s : Int) < (mid : Int) := by omega
                  have i5 : (mid : Int) < (e : Int) := by omega
                  have i6 : (e : Int) < (b : Int) := by omega
                  have hz : R1 = [] := List.eq_nil_of_length_eq_zero (by have := HLL.out.2.2.1; omega)
                  rw [show D = P ++ (L1 ++ (R1 ++ (L2 ++ (R2 ++ S)))) by rw [HDA.out, hz]; simp]
                  clear HDA hz
                  have hz : R1 = [] := List.eq_nil_of_length_eq_zero (by have := HLL.out.2.2.1; omega)
                  obtain ⟨M1, hM1, pm1, sm1⟩ : ∃ M1, L1 ++ R1 = M1 ∧ M1.Perm (L1 ++ R1) ∧ M1.Pairwise ltX := ⟨L1 ++ R1, rfl, List.Perm.refl _, by rw [hz]; simpa using HSS.out.1⟩
                  rw [show P ++ (L1 ++ (R1 ++ (L2 ++ (R2 ++ S)))) = P ++ (M1 ++ (L2 ++ (R2 ++ S))) by rw [← hM1]; simp]
                  clear hz hM1
                  have lM : M1.length = L1.length + R1.length := by have h := pm1.length_eq; rw [List.length_append] at h; exact h
                  have HM1 := Lib.hid (And.intro pm1 (And.intro sm1 lM))
                  clear pm1 sm1 lM
                  have j1 : (mid : Int) = ((P.length + M1.length : Nat) : Int) := by have := HLL.out; have := HPP.out; have := HM1.out.2.2; omega
                  have j2 : (e : Int) = ((P.length + M1.length + L2.length : Nat) : Int) := by have := HLL.out; have := HPP.out; have := HM1.out.2.2; omega
                  have j3 : (b : Int) = ((P.length + M1.length + L2.length + R2.length : Nat) : Int) := by have := HLL.out; have := HPP.out; have := HM1.out.2.2; omega
                  have HR3 := Lib.hid (fun mm os za zm zb h1 h2 h3 => HIH.out (P ++ M1) L2 R2 S mm os za zm zb (by have := HLL.out; have := HPP.out; omega) (by have := HLL.out; omega) (by have := HLL.out; omega) h1 h2 h3 (by have := HLL.out; have := HPP.out; have := HM1.out.2.2; rw [List.length_append]; omega) HSS.out.2.1 HSS.out.2.2.2 HIX.out.2)
                  simp only [List.append_assoc, List.length_append] at HR3
                  have HR4 := Lib.hid (fun mm os => HR3.out mm os _ _ _ j1 j2 j3)
                  clear j1 j2 j3 HR3
                  go_wp2_with fail
                  refine Calls.mono (HR4.out _ _) ?_
                  rintro e' W3 ⟨M2, pm2, sm2, rfl, m3, os3, hW3⟩
                  rw [List.append_assoc] at hW3
                  subst hW3
                  have HJ := Lib.hid (sym_join HM1.out.1 pm2 HM1.out.2.1 sm2 HAH.out)
                  rw [← HE12.out.1, ← HE12.out.2] at HJ
                  clear pm2 sm2 HM1 HLL HSS HIX HAH
                  go_wp2
                  exact bodyPost_end (results_none rfl _ _ _) rfl ⟨M1 ++ M2, HJ.out.2, HJ.out.1, rfl, _, _, by rw [List.append_assoc]⟩
          · by_cases q3 : md < e
            · by_cases q4 : e < b
              · first
                  | exfalso
                    have := HLL.out
                    omega
                  | have i1 : ¬ (s : Int) < (md : Int) := by omega
                    have i2 : (md : Int) < (e : Int) := by omega
                    have i3 : (a : Int) < (s : Int) := by omega
                    have i4 : (s : Int) < (mid : Int) := by omega
                    have i5 : ¬ (mid : Int) < (e : Int) := by omega
                    have i6 : (e : Int) < (b : Int) := by omega
                    have hz : L2 = [] := List.eq_nil_of_length_eq_zero (by have := HLL.out.2.1; omega)
                    rw [show D = P ++ (L1 ++ (R1 ++ (L2 ++ (R2 ++ S)))) by rw [HDA.out, hz]; simp]
                    clear HDA hz
                    have j1 : (a : Int) = (P.length : Int) := by have := HPP.out; omega
                    have j2 : (s : Int) = ((P.length + L1.length : Nat) : Int) := by have := HLL.out; have := HPP.out; omega
                    have j3 : (mid : Int) = ((P.length + L1.length + R1.length : Nat) : Int) := by have := HLL.out; have := HPP.out; omega
                    have HR2 := Lib.hid (fun mm os => HIH.out P L1 R1 (L2 ++ (R2 ++ S)) mm os _ _ _ (by have := HLL.out; have := HPP.out; omega) (by have := HLL.out; omega) (by have := HLL.out; omega) j1 j2 j3 (by have := HLL.out; have := HPP.out; rw [List.length_append, List.length_append]; omega) HSS.out.1 HSS.out.2.2.1 HIX.out.1)
                    clear j1 j2 j3
                    go_wp2_with fail
                    refine Calls.mono (HR2.out _ _) ?_
                    rintro e' W2 ⟨M1, pm1, sm1, rfl, m2, os2, rfl⟩
                    have lM : M1.length = L1.length + R1.length := by have h := pm1.length_eq; rw [List.length_append] at h; exact h
                    have HM1 := Lib.hid (And.intro pm1 (And.intro sm1 lM))
                    clear pm1 sm1 lM
                    have hz : L2 = [] := List.eq_nil_of_length_eq_zero (by have := HLL.out.2.1; omega)
                    obtain ⟨M2, hM2, pm2, sm2⟩ : ∃ M2, L2 ++ R2 = M2 ∧ M2.Perm (L2 ++ R2) ∧ M2.Pairwise ltX := ⟨L2 ++ R2, rfl, List.Perm.refl _, by rw [hz]; simpa using HSS.out.2.2.2⟩
                    rw [show P ++ (M1 ++ (L2 ++ (R2 ++ S))) = P ++ (M1 ++ (M2 ++ S)) by rw [← hM2]; simp]
                    clear hz hM2
                    have HJ := Lib.hid (sym_join HM1.out.1 pm2 HM1.out.2.1 sm2 HAH.out)
                    rw [← HE12.out.1, ← HE12.out.2] at HJ
                    clear pm2 sm2 HM1 HLL HSS HIX HAH
                    go_wp2
                    exact bodyPost_end (results_none rfl _ _ _) rfl ⟨M1 ++ M2, HJ.out.2, HJ.out.1, rfl, _, _, by rw [List.append_assoc]⟩
              · first
                  | exfalso
                    have := HLL.out
                    omega
                  | have i1 : ¬ (s : Int) < (md : Int) := by omega
                    have i2 : (md : Int) < (e : Int) := by omega
                    have i3 : (a : Int) < (s : Int) := by omega
                    have i4 : (s : Int) < (mid : Int) := by omega
                    have i5 : ¬ (mid : Int) < (e : Int) := by omega
                    have i6 : ¬ (e : Int) < (b : Int) := by omega
                    have hz : L2 = [] := List.eq_nil_of_length_eq_zero (by have := HLL.out.2.1; omega)
                    rw [show D = P ++ (L1 ++ (R1 ++ (L2 ++ (R2 ++ S)))) by rw [HDA.out, hz]; simp]
                    clear HDA hz
                    have j1 : (a : Int) = (P.length : Int) := by have := HPP.out; omega
                    have j2 : (s : Int) = ((P.length + L1.length : Nat) : Int) := by have := HLL.out; have := HPP.out; omega
                    have j3 : (mid : Int) = ((P.length + L1.length + R1.length : Nat) : Int) := by have := HLL.out; have := HPP.out; omega
                    have HR2 := Lib.hid (fun mm os => HIH.out P L1 R1 (L2 ++ (R2 ++ S)) mm os _ _ _ (by have := HLL.out; have := HPP.out; omega) (by have := HLL.out; omega) (by have := HLL.out; omega) j1 j2 j3 (by have := HLL.out; have := HPP.out; rw [List.length_append, List.length_append]; omega) HSS.out.1 HSS.out.2.2.1 HIX.out.1)
                    clear j1 j2 j3
                    go_wp2_with fail
                    refine Calls.mono (HR2.out _ _) ?_
                    rintro e' W2 ⟨M1, pm1, sm1, rfl, m2, os2, rfl⟩
                    have lM : M1.length = L1.length + R1.length := by have h := pm1.length_eq; rw [List.length_append] at h; exact h
                    have HM1 := Lib.hid (And.intro pm1 (And.intro sm1 lM))
                    clear pm1 sm1 lM
                    have hz : L2 = [] := List.eq_nil_of_length_eq_zero (by have := HLL.out.2.1; omega)
                    obtain ⟨M2, hM2, pm2, sm2⟩ : ∃ M2, L2 ++ R2 = M2 ∧ M2.Perm (L2 ++ R2) ∧ M2.Pairwise ltX := ⟨L2 ++ R2, rfl, List.Perm.refl _, by rw [hz]; simpa using HSS.out.2.2.2⟩
                    rw [show P ++ (M1 ++ (L2 ++ (R2 ++ S))) = P ++ (M1 ++ (M2 ++ S)) by rw [← hM2]; simp]
                    clear hz hM2
                    have HJ := Lib.hid (sym_join HM1.out.1 pm2 HM1.out.2.1 sm2 HAH.out)
                    rw [← HE12.out.1, ← HE12.out.2] at HJ
                    clear pm2 sm2 HM1 HLL HSS HIX HAH
                    go_wp2
                    exact bodyPost_end (results_none rfl _ _ _) rfl ⟨M1 ++ M2, HJ.out.2, HJ.out.1, rfl, _, _, by rw [List.append_assoc]⟩
            · have q4 : e < b := by have := HLL.out; have := HPP.out; have := HRL.out; omega
              first
                | exfalso
                  have := HLL.out
                  omega
                | have i1 : ¬ (s : Int) < (md : Int) := by omega
                  have i2 : ¬ (md : Int) < (e : Int) := by omega
                  have i3 : (a : Int) < (s : Int) := by omega
                  have i4 : ¬ (s : Int) < (mid : Int) := by omega
                  have i5 : ¬ (mid : Int) < (e : Int) := by omega
                  have i6 : (e : Int) < (b : Int) := by omega
                  have hz : L2 = [] := List.eq_nil_of_length_eq_zero (by have := HLL.out.2.1; omega)
                  rw [show D = P ++ (L1 ++ (R1 ++ (L2 ++ (R2 ++ S)))) by rw [HDA.out, hz]; simp]
                  clear HDA hz
                  have hz : R1 = [] := List.eq_nil_of_length_eq_zero (by have := HLL.out.2.2.1; omega)
                  obtain ⟨M1, hM1, pm1, sm1⟩ : ∃ M1, L1 ++ R1 = M1 ∧ M1.Perm (L1 ++ R1) ∧ M1.Pairwise ltX := ⟨L1 ++ R1, rfl, List.Perm.refl _, by rw [hz]; simpa using HSS.out.1⟩
                  rw [show P ++ (L1 ++ (R1 ++ (L2 ++ (R2 ++ S)))) = P ++ (M1 ++ (L2 ++ (R2 ++ S))) by rw [← hM1]; simp]
                  clear hz hM1
                  have lM : M1.length = L1.length + R1.length := by have h := pm1.length_eq; rw [List.length_append] at h; exact h
                  have HM1 := Lib.hid (And.intro pm1 (And.intro sm1 lM))
                  clear pm1 sm1 lM
                  have hz : L2 = [] := List.eq_nil_of_length_eq_zero (by have := HLL.out.2.1; omega)
                  obtain ⟨M2, hM2, pm2, sm2⟩ : ∃ M2, L2 ++ R2 = M2 ∧ M2.Perm (L2 ++ R2) ∧ M2.Pairwise ltX := ⟨L2 ++ R2, rfl, List.Perm.refl _, by rw [hz]; simpa using HSS.out.2.2.2⟩
                  rw [show P ++ (M1 ++ (L2 ++ (R2 ++ S))) = P ++ (M1 ++ (M2 ++ S)) by rw [← hM2]; simp]
                  clear hz hM2
                  have HJ := Lib.hid (sym_join HM1.out.1 pm2 HM1.out.2.1 sm2 HAH.out)
                  rw [← HE12.out.1, ← HE12.out.2] at HJ
                  clear pm2 sm2 HM1 HLL HSS HIX HAH
                  go_wp2
                  exact bodyPost_end (results_none rfl _ _ _) rfl ⟨M1 ++ M2, HJ.out.2, HJ.out.1, rfl, _, _, by rw [List.append_assoc]⟩
        · have q2 : s < md := by omega
          by_cases q3 : md < e
          · by_cases q4 : e < b
            · first
                | exfalso
                  have := HLL.out
                  omega
                | have i1 : (s : Int) < (md : Int) := by omega
                  have i2 : (md : Int) < (e : Int) := by omega
                  have i3 : ¬ (a : Int) < (s : Int) := by omega
                  have i4 : (s : Int) < (mid : Int) := by omega
                  have i5 : (mid : Int) < (e : Int) := by omega
                  have i6 : (e : Int) < (b : Int) := by omega
                  have HRO := Lib.hid (fun za zm zb h1 h2 h3 => rotate_any HH.out hg (P ++ L1) L2 R1 (R2 ++ S) N m cap os (.func (.func 125) #[] #[]) za zm zb h1 h2 h3 (by have := HLL.out; omega) (by have := HLL.out; omega) (by have := HLL.out; have := HPP.out; rw [List.length_append, List.length_append]; omega) HP.out.2.2.2.2.1 hNs)
                  rw [List.append_assoc, List.append_assoc, List.length_append] at HRO
                  have j1 : (s : Int) = ((P.length + L1.length : Nat) : Int) := by have := HLL.out; have := HPP.out; omega
                  have j2 : (md : Int) = ((P.length + L1.length + L2.length : Nat) : Int) := by have := HLL.out; have := HPP.out; omega
                  have j3 : (e : Int) = ((P.length + L1.length + L2.length + R1.length : Nat) : Int) := by have := HLL.out; have := HPP.out; omega
                  have HR1 := Lib.hid (HRO.out _ _ _ j1 j2 j3)
                  clear j1 j2 j3 HRO
                  rw [HDA.out]
                  go_wp2_with fail
                  refine Calls.mono HR1.out ?_
                  rintro e' W1 ⟨rfl, m1, os1, rfl⟩
                  clear HDA HR1
                  have hz : L1 = [] := List.eq_nil_of_length_eq_zero (by have := HLL.out.1; omega)
                  obtain ⟨M1, hM1, pm1, sm1⟩ : ∃ M1, L1 ++ R1 = M1 ∧ M1.Perm (L1 ++ R1) ∧ M1.Pairwise ltX := ⟨L1 ++ R1, rfl, List.Perm.refl _, by rw [hz]; simpa using HSS.out.2.2.1⟩
                  rw [show P ++ (L1 ++ (R1 ++ (L2 ++ (R2 ++ S)))) = P ++ (M1 ++ (L2 ++ (R2 ++ S))) by rw [← hM1]; simp]
                  clear hz hM1
                  have lM : M1.length = L1.length + R1.length := by have h := pm1.length_eq; rw [List.length_append] at h; exact h
                  have HM1 := Lib.hid (And.intro pm1 (And.intro sm1 lM))
                  clear pm1 sm1 lM
                  have j1 : (mid : Int) = ((P.length + M1.length : Nat) : Int) := by have := HLL.out; have := HPP.out; have := HM1.out.2.2; omega
                  have j2 : (e : Int) = ((P.length + M1.length + L2.length : Nat) : Int) := by have := HLL.out; have := HPP.out; have := HM1.out.2.2; omega
                  have j3 : (b : Int) = ((P.length + M1.length + L2.length + R2.length : Nat) : Int) := by have := HLL.out; have := HPP.out; have := HM1.out.2.2; omega
                  have HR3 := Lib.hid (fun mm os za zm zb h1 h2 h3 => HIH.out (P ++ M1) L2 R2 S mm os za zm zb (by have := HLL.out; have := HPP.out; omega) (by have := HLL.out; omega) (by have := HLL.out; omega) h1 h2 h3 (by have := HLL.out; have := HPP.out; have := HM1.out.2.2; rw [List.length_append]; omega) HSS.out.2.1 HSS.out.2.2.2 HIX.out.2)
                  simp only [List.append_assoc, List.length_append] at HR3
                  have HR4 := Lib.hid (fun mm os => HR3.out mm os _ _ _ j1 j2 j3)
                  clear j1 j2 j3 HR3
                  go_wp2_with fail
                  refine Calls.mono (HR4.out _ _) ?_
                  rintro e' W3 ⟨M2, pm2, sm2, rfl, m3, os3, hW3⟩
                  rw [List.append_assoc] at hW3
                  subst hW3
                  have HJ := Lib.hid (sym_join HM1.out.1 pm2 HM1.out.2.1 sm2 HAH.out)
                  rw [← HE12.out.1, ← HE12.out.2] at HJ
                  clear pm2 sm2 HM1 HLL HSS HIX HAH
                  go_wp2
                  exact bodyPost_end (results_none rfl _ _ _) rfl ⟨M1 ++ M2, HJ.out.2, HJ.out.1, rfl, _, _, by rw [List.append_assoc]⟩
            · first
                | exfalso
                  have := HLL.out
                  omega
                | have i1 : (s : Int) < (md : Int) := by omega
                  have i2 : (md : Int) < (e : Int) := by omega
                  have i3 : ¬ (a : Int) < (s : Int) := by omega
                  have i4 : (s : Int) < (mid : Int) := by omega
                  have i5 : (mid : Int) < (e : Int) := by omega
                  have i6 : ¬ (e : Int) < (b : Int) := by omega
                  have HRO := Lib.hid (fun za zm zb h1 h2 h3 => rotate_any HH.out hg (P ++ L1) L2 R1 (R2 ++ S) N m cap os (.func (.func 125) #[] #[]) za zm zb h1 h2 h3 (by have := HLL.out; omega) (by have := HLL.out; omega) (by have := HLL.out; have := HPP.out; rw [List.length_append, List.length_append]; omega) HP.out.2.2.2.2.1 hNs)
                  rw [List.append_assoc, List.append_assoc, List.length_append] at HRO
                  have j1 : (s : Int) = ((P.length + L1.length : Nat) : Int) := by have := HLL.out; have := HPP.out; omega
                  have j2 : (md : Int) = ((P.length + L1.length + L2.length : Nat) : Int) := by have := HLL.out; have := HPP.out; omega
                  have j3 : (e : Int) = ((P.length + L1.length + L2.length + R1.length : Nat) : Int) := by have := HLL.out; have := HPP.out; omega
                  have HR1 := Lib.hid (HRO.out _ _ _ j1 j2 j3)
                  clear j1 j2 j3 HRO
                  rw [HDA.out]
                  go_wp2_with fail
                  refine Calls.mono HR1.out ?_
                  rintro e' W1 ⟨rfl, m1, os1, rfl⟩
                  clear HDA HR1
                  have hz : L1 = [] := List.eq_nil_of_length_eq_zero (by have := HLL.out.1; omega)
                  obtain ⟨M1, hM1, pm1, sm1⟩ : ∃ M1, L1 ++ R1 = M1 ∧ M1.Perm (L1 ++ R1) ∧ M1.Pairwise ltX := ⟨L1 ++ R1, rfl, List.Perm.refl _, by rw [hz]; simpa using HSS.out.2.2.1⟩
                  rw [show P ++ (L1 ++ (R1 ++ (L2 ++ (R2 ++ S)))) = P ++ (M1 ++ (L2 ++ (R2 ++ S))) by rw [← hM1]; simp]
                  clear hz hM1
                  have lM : M1.length = L1.length + R1.length := by have h := pm1.length_eq; rw [List.length_append] at h; exact h
                  have HM1 := Lib.hid (And.intro pm1 (And.intro sm1 lM))
                  clear pm1 sm1 lM
                  have hz : R2 = [] := List.eq_nil_of_length_eq_zero (by have := HLL.out.2.2.2; omega)
                  obtain ⟨M2, hM2, pm2, sm2⟩ : ∃ M2, L2 ++ R2 = M2 ∧ M2.Perm (L2 ++ R2) ∧ M2.Pairwise ltX := ⟨L2 ++ R2, rfl, List.Perm.refl _, by rw [hz]; simpa using HSS.out.2.1⟩
                  rw [show P ++ (M1 ++ (L2 ++ (R2 ++ S))) = P ++ (M1 ++ (M2 ++ S)) by rw [← hM2]; simp]
                  clear hz hM2
                  have HJ := Lib.hid (sym_join HM1.out.1 pm2 HM1.out.2.1 sm2 HAH.out)
                  rw [← HE12.out.1, ← HE12.out.2] at HJ
                  clear pm2 sm2 HM1 HLL HSS HIX HAH
                  go_wp2
                  exact bodyPost_end (results_none rfl _ _ _) rfl ⟨M1 ++ M2, HJ.out.2, HJ.out.1, rfl, _, _, by rw [List.append_assoc]⟩
          · have q4 : e < b := by have := HLL.out; have := HPP.out; have := HRL.out; omega
            first
              | exfalso
                have := HLL.out
                omega
              | have i1 : (s : Int) < (md : Int) := by omega
                have i2 : ¬ (md : Int) < (e : Int) := by omega
                have i3 : ¬ (a : Int) < (s : Int) := by omega
                have i4 : ¬ (s : Int) < (mid : Int) := by omega
                have i5 : (mid : Int) < (e : Int) := by omega
                have i6 : (e : Int) < (b : Int) := by omega
                have hz : R1 = [] := List.eq_nil_of_length_eq_zero (by have := HLL.out.2.2.1; omega)
                rw [show D = P ++ (L1 ++ (R1 ++ (L2 ++ (R2 ++ S)))) by rw [HDA.out, hz]; simp]
                clear HDA hz
                have hz : L1 = [] := List.eq_nil_of_length_eq_zero (by have := HLL.out.1; omega)
                obtain ⟨M1, hM1, pm1, sm1⟩ : ∃ M1, L1 ++ R1 = M1 ∧ M1.Perm (L1 ++ R1) ∧ M1.Pairwise ltX := ⟨L1 ++ R1, rfl, List.Perm.refl _, by rw [hz]; simpa using HSS.out.2.2.1⟩
                rw [show P ++ (L1 ++ (R1 ++ (L2 ++ (R2 ++ S)))) = P ++ (M1 ++ (L2 ++ (R2 ++ S))) by rw [← hM1]; simp]
                clear hz hM1
                have lM : M1.length = L1.length + R1.length := by have h := pm1.length_eq; rw [List.length_append] at h; exact h
                have HM1 := Lib.hid (And.intro pm1 (And.intro sm1 lM))
                clear pm1 sm1 lM
                have j1 : (mid : Int) = ((P.length + M1.length : Nat) : Int) := by have := HLL.out; have := HPP.out; have := HM1.out.2.2; omega
                have j2 : (e : Int) = ((P.length + M1.length + L2.length : Nat) : Int) := by have := HLL.out; have := HPP.out; have := HM1.out.2.2; omega
                have j3 : (b : Int) = ((P.length + M1.length + L2.length + R2.length : Nat) : Int) := by have := HLL.out; have := HPP.out; have := HM1.out.2.2; omega
                have HR3 := Lib.hid (fun mm os za zm zb h1 h2 h3 => HIH.out (P ++ M1) L2 R2 S mm os za zm zb (by have := HLL.out; have := HPP.out; omega) (by have := HLL.out; omega) (by have := HLL.out; omega) h1 h2 h3 (by have := HLL.out; have := HPP.out; have := HM1.out.2.2; rw [List.length_append]; omega) HSS.out.2.1 HSS.out.2.2.2 HIX.out.2)
                simp only [List.append_assoc, List.length_append] at HR3
                have HR4 := Lib.hid (fun mm os => HR3.out mm os _ _ _ j1 j2 j3)
                clear j1 j2 j3 HR3
                go_wp2_with fail
                refine Calls.mono (HR4.out _ _) ?_
                rintro e' W3 ⟨M2, pm2, sm2, rfl, m3, os3, hW3⟩
                rw [List.append_assoc] at hW3
                subst hW3
                have HJ := Lib.hid (sym_join HM1.out.1 pm2 HM1.out.2.1 sm2 HAH.out)
                rw [← HE12.out.1, ← HE12.out.2] at HJ
                clear pm2 sm2 HM1 HLL HSS HIX HAH
                go_wp2
                exact bodyPost_end (results_none rfl _ _ _) rfl ⟨M1 ++ M2, HJ.out.2, HJ.out.1, rfl, _, _, by rw [List.append_assoc]⟩
end

end Go.Proofs.Ytlgkdonaplejdaa

