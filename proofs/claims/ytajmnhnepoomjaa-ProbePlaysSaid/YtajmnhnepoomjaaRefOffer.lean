/- The document's own best list behind an offer, by contract. -/
import Derived.Test.YtajmnhnepoomjaaRefPush
import Derived.Test.YtajmnhnepoomjaaQueUse
namespace Go.Proofs.Ytajmnhnepoomjaa
open Go.RowKit Go.Shelf Go.Sort

/-- Where a list lies: where it lay, if it is the same; or in new memory. -/
def NewOr (A A' : Option Addr) (K R : List SpotT) (n : Nat) : Prop := R ≠ [] → ∀ k o, A' = some ⟨k, o, none⟩ → (A = some ⟨k, o, none⟩ ∧ K = R) ∨ n ≤ k
def OfferRK (A : Option Addr) (K R : List SpotT) (t : Bool) (w : World) (e : Ending) (w' : World) : Prop :=
  ∃ A' c', e = .returned (.tuple #[.slice A' R.length c', .bool t]) ∧ RdS w' w'.heap.size A' R ∧ Below w.heap.size w w' ∧ NewOr A A' K R w.heap.size
def OfferR (m : Nat) (A : Option Addr) (O : List SpotT) (s : SpotT) (w : World) : Ending → World → Prop := OfferRK A (keepS m O) (keepS m (O ++ [s])) (offQ m O s) w

set_option maxRecDepth 100000 in
set_option maxHeartbeats 4000000 in
theorem refOffer_any (A : Option Addr) (O : List SpotT) (ca : Nat) (most : Int) (s : SpotT) (w : World) (hA : RdS w w.heap.size A (keepS (bestN most) O)) (hl : O.length ≤ 1000) :
    Calls Try.prog 80 #[.slice A (keepS (bestN most) O).length ca, .int .i64 most, sptV s] w (OfferR (bestN most) A O s w) := by
  have mixed : Try.prog.follows .mixedOrders = true := by kernel_rfl
  have hml := bestN_le most
  have hkl := keepS_len (bestN most) O
  have HMO := Lib.hid (refMost_any most)
  generalize bestN most = m at *
  have HYES := Lib.hid (@off_yes m O s)
  have HNOT := Lib.hid (@off_not m O s)
  have HOFF : Hid (offQ m O s = (decide ((keepS m O).length < m) || (decide (0 < (keepS m O).length) && ltS s (spAt (keepS m O) ((keepS m O).length - 1))))) := rfl
  obtain ⟨R, hR⟩ : ∃ R, keepS m (O ++ [s]) = R := ⟨_, rfl⟩
  have HRR := Lib.hid hR
  unfold OfferR
  rw [hR] at HYES HNOT ⊢
  clear hR
  generalize offQ m O s = t at *
  generalize keepS m O = K at *
  obtain ⟨⟨xa, xb⟩, xc⟩ := s
  unfold sptV
  simp only
  have hX := below_new3 w (.cells #[.int .u64 xa, .int .u64 xb, .int .i64 xc] 62)
  have HD := Lib.hid (SpC.new w xa xb xc)
  have HX := Lib.hid hX
  have HA := Lib.hid ((hA.below hX).more hX.size)
  have hsz : (w.alloc (.cells #[.int .u64 xa, .int .u64 xb, .int .i64 xc] 62)).heap.size = w.heap.size + 1 := by simp
  have HSZ := Lib.hid hsz
  have HKL : Hid (K.length ≤ 1000) := Lib.hid (by omega)
  have HML := Lib.hid hml
  have HKM : Hid (K.length ≤ m) := Lib.hid (by omega)
  clear hX hA hsz hml hkl hl
  go_enter Try.func80, Try.ntmps80
  go_upto_region 1 with (fail)
  generalize w.alloc (.cells #[.int .u64 xa, .int .u64 xb, .int .i64 xc] 62) = X at *
  go_wp2_with fail
  refine (HMO.out X).mono ?_
  rintro e X1 ⟨rfl, rfl⟩
  by_cases h1 : K.length < m
  · have ht : t = true := by rw [HOFF.out, decide_eq_true h1]; rfl
    have hlt : ¬ ((m : Int) ≤ (K.length : Int)) := by omega
    have hlt2 : ¬ m ≤ K.length := by omega
    have hlt3 := h1
    have HY := Lib.hid (HYES.out ht)
    subst ht
    clear h1 HYES HNOT HOFF
    go_wp2
    go_quiet (fail)
    have HV := Lib.hid (below_draws X nq X.heap.size)
    generalize X.drewN nq = V at *
    clear hlt hlt2 hlt3
    have hXV := HV.out
    obtain ⟨d0, d1, d2⟩ := HD.out.below HV.out (by rw [HSZ.out]; exact Nat.lt_succ_self _)
    simp only at d0 d1 d2
    have HRV := Lib.hid ((HA.out.below HV.out).more HV.out.size)
    have HQL : Hid ((sortS (K ++ [((xa, xb), xc)])).length = K.length + 1) := by rw [Hid, sortS_len]; exact List.length_append
    clear hXV
    go_wp2_with fail
    refine (refPush_new A K ca ((xa, xb), xc) V HRV.out (by have := HKL.out; omega)).mono ?_
    generalize sortS (K ++ [((xa, xb), xc)]) = Z at *
    rintro e V1 ⟨A1, c1, rfl, hr1, hc1, hm1, hb1, hn1⟩
    have hcA1 : A1 = none → c1 = 0 := fun e => by
      subst e
      have := hr1.none_nil
      have := HQL.out
      simp_all
    have HL := Lib.hid (refLeast_new A1 Z c1 (m : Int) (by have := HKL.out; have := HQL.out; omega) hcA1 V1 hr1)
    rw [HY.out] at HL
    have HV1 := Lib.hid (HV.out.trans (hb1.mono HV.out.size))
    clear d0 d1 d2 hr1 hc1 hm1 hb1 hn1 hcA1
    go_wp2_with fail
    refine HL.out.mono ?_
    rintro e V2 ⟨A2, c2, rfl, hr2, hc2, hm2, hb2, hn2⟩
    have HV2 := Lib.hid (HX.out.trans ((HV1.out.trans (hb2.mono HV1.out.size)).mono (by rw [HSZ.out]; exact Nat.le_succ _)))
    have HN2 : Hid (NewOr A A2 K R w.heap.size) := Lib.hid fun h k o e => .inr (by
      have h1 := hn2 h k o e
      have h2 := HV1.out.size
      have h3 := HSZ.out
      omega)
    have HR2 := Lib.hid hr2
    clear hr2 hc2 hm2 hb2 hn2 HL
    go_wp2
    go_ret2
    exact ⟨A2, c2, rfl, HR2.out, HV2.out, HN2.out⟩
  · have hKm : K.length = m := by have := HKM.out; omega
    rcases (show m = 0 ∨ ∃ j, m = j + 1 by cases m with | zero => exact .inl rfl | succ j => exact .inr ⟨j, rfl⟩) with rfl | ⟨j, rfl⟩
    · have ht : t = false := by rw [HOFF.out, hKm]; rfl
      have HE := Lib.hid (HNOT.out ht)
      subst ht
      rw [hKm]
      have HK0 := Lib.hid hKm
      clear h1 HYES HNOT HOFF hKm
      go_wp2
      go_quiet (fail)
      have HV := Lib.hid (below_draws X nq X.heap.size)
      generalize X.drewN nq = V at *
      go_wp2
      go_ret2
      exact ⟨A, ca, by rw [HE.out, HK0.out]; rfl, by rw [HE.out]; exact (HA.out.below HV.out).more HV.out.size, HX.out.trans (HV.out.mono (by rw [HSZ.out]; exact Nat.le_succ _)), fun _ _ _ e => .inl ⟨e, HE.out.symm⟩⟩
    · have hlk : spAt K (K.length - 1) = spAt K j := by rw [hKm, Nat.add_sub_cancel]
      have htv : t = ltS ((xa, xb), xc) (spAt K j) := by
        rw [HOFF.out, hlk, hKm, decide_eq_false (Nat.lt_irrefl _), decide_eq_true (Nat.succ_pos j)]
        rfl
      have hjK : j < K.length := by omega
      obtain ⟨b, off, rfl, hbw, c0, c1, c2⟩ := HA.out j _ (List.getElem?_eq_getElem hjK)
      rw [← spAt_get hjK] at c0 c1 c2
      have HKM2 := Lib.hid hKm
      have hwx : w.heap.size < X.heap.size := by rw [HSZ.out]; omega
      have g0 := fun nn os => cell_grown (w := X) (n := nn) (os := os) (a := ⟨b, off + j * 3, none⟩) hbw c0
      have g1 := fun nn os => cell_grown (w := X) (n := nn) (os := os) (a := ⟨b, off + j * 3 + 1, none⟩) hbw c1
      have g2 := fun nn os => cell_grown (w := X) (n := nn) (os := os) (a := ⟨b, off + j * 3 + 2, none⟩) hbw c2
      have hBX : w.heap.size < X.heap.size := by have := HSZ.out; omega
      have g3 := fun nn os => cell_grown (w := X) (n := nn) (os := os) (a := ⟨w.heap.size, 0, none⟩) hBX HD.out.1
      have g4 := fun nn os => cell_grown (w := X) (n := nn) (os := os) (a := ⟨w.heap.size, 1, none⟩) hBX HD.out.2.1
      have g5 := fun nn os => cell_grown (w := X) (n := nn) (os := os) (a := ⟨w.heap.size, 2, none⟩) hBX HD.out.2.2
      simp only at g3 g4 g5
      obtain ⟨⟨⟨ya, yb⟩, yc⟩, hy⟩ : ∃ y, spAt K j = y := ⟨_, rfl⟩
      rw [hy] at g0 g1 g2 htv
      simp only at g0 g1 g2
      have HY0 := HYES
      clear hy c0 c1 c2 hlk hjK h1 HOFF HKM hwx
      rw [hKm]
      have hKM := Lib.hid hKm
      clear hKm
      have k1 : (0 : Int) ≤ (j : Int) := by omega
      have k2 : (j : Int) < ((j + 1 : Nat) : Int) := by omega
      have k2b : (j : Int) < (j : Int) + 1 := by omega
      have k3 : ¬ ((j + 1 : Nat) : Int) = 0 := by omega
      have k3b : ¬ (j : Int) + 1 = 0 := by omega
      have e1 : IntKind.i64.wrap (((j + 1 : Nat) : Int) - 1) = (j : Int) := by
        rw [IntWalk.i64_in _ (by have := HKL.out; have := hKM.out; omega)]
        omega
      have e1b : IntKind.i64.wrap (j : Int) = (j : Int) := IntWalk.i64_in _ (by have := HKL.out; have := hKM.out; omega)
      have e2 : ((j : Int)).toNat = j := Int.toNat_natCast j
      go_wp2
      go_quiet_grown ((go_at_call 75; exact Calls.grown_of (refSpot_any ((_, _), _) ((_, _), _) _)))
      change Exit.then _ _ Exit.normal _ (grow (X.drewN nq) osq)
      have HV : Hid (Below X.heap.size X (grow (X.drewN nq) osq)) := (show Grown X (grow (X.drewN nq) osq) from ⟨nq, osq, rfl⟩).below
      clear g0 g1 g2 g3 g4 g5 e1 e1b e2
      generalize grow (X.drewN nq) osq = V at *
      have hbz : ((j : Int) + 1 == 0) = false := by
        rw [beq_eq_false_iff_ne]
        omega
      rw [hbz, Bool.false_or]
      cases hs : ltS ((xa, xb), xc) ((ya, yb), yc)
      · have ht : t = false := by rw [htv, hs]
        have HE := Lib.hid (HNOT.out ht)
        subst ht
        clear htv
        go_wp2
        go_ret2
        clear hs
        exact ⟨some ⟨b, off, none⟩, ca, by rw [HE.out, hKM.out]; rfl, by rw [HE.out]; exact (HA.out.below HV.out).more HV.out.size, HX.out.trans (HV.out.mono (by rw [HSZ.out]; exact Nat.le_succ _)), fun _ _ _ e => .inl ⟨e, HE.out.symm⟩⟩
      · have ht : t = true := by rw [htv, hs]
        have HY := Lib.hid (HYES.out ht)
        subst ht
        clear htv
        rw [← hKM.out]
        have hXV := HV.out
        obtain ⟨d0, d1, d2⟩ := HD.out.below HV.out (by rw [HSZ.out]; exact Nat.lt_succ_self _)
        simp only at d0 d1 d2
        have HRV := Lib.hid ((HA.out.below HV.out).more HV.out.size)
        have HQL : Hid ((sortS (K ++ [((xa, xb), xc)])).length = K.length + 1) := by rw [Hid, sortS_len]; exact List.length_append
        clear hXV
        go_wp2_with fail
        refine (refPush_new (some ⟨b, off, none⟩) K ca ((xa, xb), xc) V HRV.out (by have := HKL.out; omega)).mono ?_
        generalize sortS (K ++ [((xa, xb), xc)]) = Z at *
        rintro e V1 ⟨A1, c1, rfl, hr1, hc1, hm1, hb1, hn1⟩
        have hcA1 : A1 = none → c1 = 0 := fun e => by
          subst e
          have := hr1.none_nil
          have := HQL.out
          simp_all
        have HL := Lib.hid (refLeast_new A1 Z c1 ((j + 1 : Nat) : Int) (by have := HKL.out; have := HQL.out; omega) hcA1 V1 hr1)
        rw [HY.out] at HL
        have HV1 := Lib.hid (HV.out.trans (hb1.mono HV.out.size))
        clear d0 d1 d2 hr1 hc1 hm1 hb1 hn1 hcA1
        go_wp2_with fail
        refine HL.out.mono ?_
        rintro e V2 ⟨A2, c2, rfl, hr2, hc2, hm2, hb2, hn2⟩
        have HV2 := Lib.hid (HX.out.trans ((HV1.out.trans (hb2.mono HV1.out.size)).mono (by rw [HSZ.out]; exact Nat.le_succ _)))
        have HN2 : Hid (NewOr (some ⟨b, off, none⟩) A2 K R w.heap.size) := Lib.hid fun h k o e => .inr (by
          have h1 := hn2 h k o e
          have h2 := HV1.out.size
          have h3 := HSZ.out
          omega)
        have HR2 := Lib.hid hr2
        clear hr2 hc2 hm2 hb2 hn2 HL
        go_wp2
        go_ret2
        exact ⟨A2, c2, rfl, HR2.out, HV2.out, HN2.out⟩

end Go.Proofs.Ytajmnhnepoomjaa
