/- TopCutDist, the walk of the law: the distance of two right vectors is that of their beginnings and that of what is behind, wherever both are cut. -/
import Derived.Test.YtnfcmkmjahplpaaVecTop
import Derived.Deep.RegionHeld3
namespace Go.Proofs.Ytnfcmkmjahplpaa
open Go.RowKit Go.Shelf

theorem ok_slice {A : Option Addr} {zs : List Int} {d : Int} {w : World} (h : okV zs d) (hv : Vec w A zs) : ∃ b off, A = some ⟨b, off, none⟩ := by
  have h1 := h.1
  have h3 := h.2.2.1
  obtain ⟨b, off, he, _⟩ := hv.rd.at_ (k := 0) (by omega)
  exact ⟨b, off, he⟩

theorem wrap_i64_64 (n : Int) : IntKind.i64.wrap n = wrap64 n := by rw [IntKind.wrap_i64, wrap64]

/-- What stands behind place k: where it lies, by whether the array ends there. -/
theorem Vec.behind {w : World} {b off : Nat} {zs : List Int} (h : Vec w (some ⟨b, off, none⟩) zs) (k c : Nat) (hc : zs.length ≤ c) :
    ∃ D : Option Addr, (if c = k then some (⟨b, off, none⟩ : Addr) else some ⟨b, off + k, none⟩) = D ∧ Vec w D (zs.drop k) := by
  by_cases e : c = k
  · refine ⟨_, if_pos e, ?_⟩
    rw [List.drop_eq_nil_of_le (by omega)]
    exact Vec.nil
  · exact ⟨_, if_neg e, h.drop k⟩

set_option maxRecDepth 100000 in
set_option maxHeartbeats 1000000 in
theorem TopCut_walk (A : Option Addr) (a : List Int) (ca : Nat) (B : Option Addr) (b : List Int) (cb : Nat) (at_ : Int) (w : World) (hA : Vec w A a) (hca : a.length ≤ ca) (_ : ca ≤ 9223372036854775807) (hB : Vec w B b) (hcb : b.length ≤ cb) (_ : cb ≤ 9223372036854775807) :
    Calls Try.prog 5 #[.slice A a.length ca, .slice B b.length cb, .int .i64 at_] w fun e w' => e = .returned (.bool true) ∧ Below w.heap.size w w' := by
  by_cases h1 : okV a a.length
  · by_cases h2 : okV b a.length
    · by_cases h3 : 0 ≤ at_ ∧ at_ ≤ a.length
      · obtain ⟨ba, oa, rfl⟩ := ok_slice h1 hA
        obtain ⟨bb, ob, rfl⟩ := ok_slice h2 hB
        obtain ⟨k, rfl⟩ := Int.eq_ofNat_of_zero_le h3.1
        have hk : k ≤ a.length := by omega
        have hlb : b.length = a.length := by have := h2.2.2.1; omega
        obtain ⟨DA, hDA, vA⟩ := hA.behind k ca hca
        obtain ⟨DB, hDB, vB⟩ := hB.behind k cb hcb
        have e1 : chkN a a.length = 0 := by rw [chkN, if_pos h1]
        have e2 : chkN b a.length = 0 := by rw [chkN, if_pos h2]
        have C1 := Lib.hid fun w' hb => Check_v (w' := w') hA hb ca a.length
        have C2 := Lib.hid fun w' hb => Check_v (w' := w') hB hb cb a.length
        rw [e1] at C1
        rw [e2] at C2
        have D := Lib.hid fun w' hb => Dist_v (w' := w') hA hB hb a.length a.length ca cb rfl hlb
        have D1 := Lib.hid fun w' hb => Dist_v (w' := w') (hA.take k) (hB.take k) hb k k ca cb (by simp; omega) (by simp; omega)
        have D2 := Lib.hid fun w' hb => Dist_v (w' := w') vA vB hb (a.length - k) (a.length - k) (ca - k) (cb - k) (by simp) (by simp; omega)
        have P := Lib.hid fun w' hb => Dot_v (w' := w') hA hB hb a.length a.length ca cb rfl hlb
        have P1 := Lib.hid fun w' hb => Dot_v (w' := w') (hA.take k) (hB.take k) hb k k ca cb (by simp; omega) (by simp; omega)
        have P2 := Lib.hid fun w' hb => Dot_v (w' := w') vA vB hb (a.length - k) (a.length - k) (ca - k) (cb - k) (by simp) (by simp; omega)
        obtain ⟨q, q1, q2, hq, hq1, hq2, hsum⟩ : ∃ q q1 q2 : Nat, satN (distN a b (max a.length a.length)) = q ∧ satN (distN (a.take k) (b.take k) (max k k)) = q1 ∧
            satN (distN (a.drop k) (b.drop k) (max (a.length - k) (a.length - k))) = q2 ∧ IntKind.u64.wrap ((q1 : Int) + (q2 : Int)) = (q : Int) := by
          have hn : a.length ≤ 4096 := by have := h1.2.1; omega
          have ha := ok_dist h1 h2 a.length hn
          have hs := distN_behind a b k (a.length - k)
          rw [show k + (a.length - k) = a.length from by omega, ← distN_front a b k] at hs
          rw [Nat.max_self, Nat.max_self, Nat.max_self, sat_small (n := distN a b a.length) (by omega), sat_small (n := distN (a.take k) (b.take k) k) (by omega), sat_small (n := distN (a.drop k) (b.drop k) (a.length - k)) (by omega)]
          refine ⟨_, _, _, rfl, rfl, rfl, ?_⟩
          rw [IntKind.wrap_u64, hs]
          omega
        obtain ⟨p, p1, p2, hp, hp1, hp2, hpsum⟩ : ∃ p p1 p2 : Int, wrap64 (dotZ a b (max a.length a.length)) = p ∧ wrap64 (dotZ (a.take k) (b.take k) (max k k)) = p1 ∧
            wrap64 (dotZ (a.drop k) (b.drop k) (max (a.length - k) (a.length - k))) = p2 ∧ IntKind.i64.wrap (p1 + p2) = p := by
          have hs := dotZ_behind a b k (a.length - k)
          rw [show k + (a.length - k) = a.length from by omega, ← dotZ_front a b k] at hs
          rw [Nat.max_self, Nat.max_self, Nat.max_self]
          exact ⟨_, _, _, rfl, rfl, rfl, by rw [wrap_i64_64, hs, dot_wrap]⟩
        rw [hq] at D
        rw [hq1] at D1
        rw [hq2] at D2
        rw [hp] at P
        rw [hp1] at P1
        rw [hp2] at P2
        rw [hlb] at C2 ⊢
        rw [hlb] at hcb
        clear h1 h2 h3 hA hB vA vB e1 e2 hq hq1 hq2 hp hp1 hp2 hlb
        generalize a.length = n at *
        have k0 : (0 : Int) ≤ (k : Int) := by omega
        have kn : (k : Int) ≤ (n : Int) := by omega
        have ka : (k : Int) ≤ (ca : Int) := by omega
        have kb : (k : Int) ≤ (cb : Int) := by omega
        go_enter Try.func5, Try.ntmps5
        go_wp2_with fail
        refine (begins3_any _).mono ?_
        rintro e w1 ⟨rfl, hb⟩
        go_wp2_with fail
        refine Calls.mono (C1.out _ hb) ?_
        clear hb
        rintro e w1 ⟨rfl, hb⟩
        go_wp2_with fail
        refine Calls.mono (C2.out _ hb) ?_
        clear hb C1 C2
        rintro e w1 ⟨rfl, hb⟩
        go_wp2_with fail
        go_region_held3 (fun w' => Below w.heap.size w w') (first
            | assumption
            | exact Below.trans (by assumption) (below_draws _ 1 _))
          (first
            | (go_at_call 11; (first | with_reducible refine Calls.mono (D.out _ (by assumption)) ?_ | with_reducible refine Calls.mono (D1.out _ (by assumption)) ?_ | with_reducible refine Calls.mono (D2.out _ (by assumption)) ?_); rintro e w1 ⟨rfl, hb⟩)
            | (go_at_call 15; (first | with_reducible refine Calls.mono (P.out _ (by assumption)) ?_ | with_reducible refine Calls.mono (P1.out _ (by assumption)) ?_ | with_reducible refine Calls.mono (P2.out _ (by assumption)) ?_); rintro e w1 ⟨rfl, hb⟩))
        go_wp2
        go_ret
        exact ⟨rfl, by assumption⟩
      · have e1 : chkN a a.length = 0 := by rw [chkN, if_pos h1]
        have e2 : chkN b a.length = 0 := by rw [chkN, if_pos h2]
        have hlb : b.length = a.length := by have := h2.2.2.1; omega
        have C1 := Lib.hid fun w' hb => Check_v (w' := w') hA hb ca a.length
        have C2 := Lib.hid fun w' hb => Check_v (w' := w') hB hb cb a.length
        rw [e1] at C1
        rw [e2] at C2
        rw [hlb] at C2 ⊢
        have hcase : at_ < 0 ∨ (0 ≤ at_ ∧ (a.length : Int) < at_) := by omega
        clear h1 h2 h3 hA hB e1 e2 hlb hcb
        generalize a.length = n at *
        rcases hcase with hc | ⟨hc, hc'⟩
        all_goals
          go_enter Try.func5, Try.ntmps5
          go_wp2_with fail
          refine (begins3_any _).mono ?_
          rintro e w1 ⟨rfl, hb⟩
          go_wp2_with fail
          refine Calls.mono (C1.out _ hb) ?_
          clear hb
          rintro e w1 ⟨rfl, hb⟩
          go_wp2_with fail
          refine Calls.mono (C2.out _ hb) ?_
          clear hb C1 C2
          rintro e w1 ⟨rfl, hb⟩
          go_wp2
          go_ret
          exact ⟨rfl, hb⟩
    · have e1 : chkN a a.length = 0 := by rw [chkN, if_pos h1]
      have e2 : chkN b a.length = 1 := by rw [chkN, if_neg h2]
      have C1 := Lib.hid fun w' hb => Check_v (w' := w') hA hb ca a.length
      have C2 := Lib.hid fun w' hb => Check_v (w' := w') hB hb cb a.length
      rw [e1] at C1
      rw [e2] at C2
      clear h1 h2 hA hB e1 e2
      go_enter Try.func5, Try.ntmps5
      go_wp2_with fail
      refine (begins3_any _).mono ?_
      rintro e w1 ⟨rfl, hb⟩
      go_wp2_with fail
      refine Calls.mono (C1.out _ hb) ?_
      clear hb
      rintro e w1 ⟨rfl, hb⟩
      go_wp2_with fail
      refine Calls.mono (C2.out _ hb) ?_
      clear hb C1 C2
      rintro e w1 ⟨rfl, hb⟩
      go_wp2
      go_ret
      exact ⟨rfl, hb⟩
  · have e1 : chkN a a.length = 1 := by rw [chkN, if_neg h1]
    have C1 := Lib.hid fun w' hb => Check_v (w' := w') hA hb ca a.length
    rw [e1] at C1
    clear h1 hA hB e1
    go_enter Try.func5, Try.ntmps5
    go_wp2_with fail
    refine (begins3_any _).mono ?_
    rintro e w1 ⟨rfl, hb⟩
    go_wp2_with fail
    refine Calls.mono (C1.out _ hb) ?_
    clear hb C1
    rintro e w1 ⟨rfl, hb⟩
    go_wp2
    go_ret
    exact ⟨rfl, hb⟩

end Go.Proofs.Ytnfcmkmjahplpaa
