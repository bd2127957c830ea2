/- choose.Best, by contract. -/
import Derived.Test.YtlgkdonaplejdaaChApart
namespace Go.Proofs.Ytlgkdonaplejdaa
open Go.RowKit Go.Shelf Go.Sort Go.Lib

theorem splitGo_le (its : List ItT) (most : Int) : ∀ (M ch oth : List TagC), (ch.length : Int) ≤ max most 0 → ((splitGo its most M ch oth).1.length : Int) ≤ max most 0 ∧ (splitGo its most M ch oth).1.length + (splitGo its most M ch oth).2.length ≤ M.length + ch.length + oth.length ∧ (((splitGo its most M ch oth).1.length : Int) < most → (splitGo its most M ch oth).1.length + (splitGo its most M ch oth).2.length = M.length + ch.length + oth.length)
  | [], ch, oth, h => by
    unfold splitGo
    simp
    omega
  | c :: M, ch, oth, h => by
    unfold splitGo
    split
    · simp
      omega
    · split
      · have := splitGo_le its most M ch (oth ++ [c]) h
        simp only [List.length_append, List.length_cons, List.length_nil] at this ⊢
        omega
      · have := splitGo_le its most M (ch ++ [c]) oth (by simp; omega)
        simp only [List.length_append, List.length_cons, List.length_nil] at this ⊢
        omega
/-- The best: those that are apart, then others, as many as are missing. -/
def bestL (its : List ItT) (most : Int) (M : List TagC) : List TagC := (splitGo its most M [] []).1 ++ (splitGo its most M [] []).2.take (most - ((splitGo its most M [] []).1.length : Int)).toNat
theorem bestL_len {its : List ItT} {most : Int} {M : List TagC} (h : 1 ≤ most) : ((bestL its most M).length : Int) = min most (M.length : Int) := by
  have h1 := splitGo_le its most M [] [] (by simp; omega)
  unfold bestL
  simp only [List.length_append, List.length_take, List.length_nil, Nat.add_zero] at h1 ⊢
  omega
def BestC (zs : List SpotT) (its : List ItT) (most : Int) (w : World) (e : Ending) (W : World) : Prop :=
  ∃ M, IsOrd zs its M ∧ SpotsOut (if most < 1 then [] else spotsC (bestL its most M)) w e W
theorem RdS.take {w : World} {B : Nat} {A : Option Addr} {zs : List SpotT} (h : RdS w B A zs) (k : Nat) : RdS w B A (zs.take k) := fun j z hz => by
  rw [List.getElem?_take] at hz
  split at hz
  · exact h j z hz
  · cases hz

set_option maxRecDepth 100000 in
set_option maxHeartbeats 4000000 in
theorem Best_any (S : Option Addr) (zs : List SpotT) (cs : Nat) (I : Option Addr) (its : List ItT) (ci : Nat) (most : Int) (w : World) (hS : RdS w w.heap.size S zs) (hI : ItemsAt w w.heap.size I its) (hl : zs.length ≤ 100000) (hmx : most ≤ 9223372036854775807) (hx : ∃ M, IsOrd zs its M) :
    Calls Try.prog 20 #[.slice S zs.length cs, .slice I its.length ci, .int .i64 most] w (BestC zs its most w) := by
  by_cases hm : most < 1
  · obtain ⟨M, hO⟩ := hx
    clear hS hI
    go_enter Try.func20, Try.ntmps20
    go_wp2
    go_ret
    refine ⟨M, hO, ?_⟩
    rw [if_pos hm]
    exact ⟨none, 0, rfl, RdS.nil, Nat.le_refl _, by omega, Below.refl _ _⟩
  · have HC := Lib.hid (inOrder_any S zs cs I its ci w hS hI hl)
    have HI := Lib.hid hI
    obtain ⟨i1, hp0, hp1, hp2, hp3⟩ := info_parts info_spot
    have hmz : ¬ most < 1 := hm
    clear hS hI hx hm
    go_enter Try.func20, Try.ntmps20
    go_wp2_with fail
    refine Calls.mono HC.out ?_
    rintro e W ⟨g, M, rfl, hg1, hg2, p1, p2, hH, hb⟩
    have hO : IsOrd zs its M := ⟨p1, p2⟩
    have hMl := hO.len
    have hcl := candsL_len zs its
    have hVM : ∀ x ∈ M, x.1.2 = vecOf (itAt its x.2) ∧ VecB W W.heap.size (itAt its x.2).A (itAt its x.2).vec := fun x hx => ⟨(hO.mem hx).2.2, ((itAt_vec HI.out x.2).below hb).more hb.size⟩
    have HSP := Lib.hid (fun cap => split_any g cap M its most W hH hg2 hVM (by omega))
    have hle := splitGo_le its most M [] [] (by simp; omega)
    have hBL : bestL its most M = (splitGo its most M [] []).1 ++ (splitGo its most M [] []).2.take (most - ((splitGo its most M [] []).1.length : Int)).toNat := rfl
    rw [hMl] at HSP hle
    generalize splitGo its most M [] [] = R at *
    obtain ⟨R1, R2⟩ := R
    simp only [List.length_nil, Nat.add_zero] at hle hBL
    have HO := Lib.hid hO
    have HB := Lib.hid hb
    have HBL := Lib.hid hBL
    rw [hcl]
    clear hH hVM hO hb p1 p2 hcl hMl HC hBL
    go_wp2_with fail
    refine Calls.mono (HSP.out _) ?_
    rintro e W2 ⟨A1, c1, A2, c2, rfl, ho, hr, hc1, hc2, hb2⟩
    simp only at ho hr hc1 ⊢
    obtain ⟨k, hk⟩ : ∃ k : Nat, min (most - (R1.length : Int)) (R2.length : Int) = (k : Int) := ⟨(min (most - (R1.length : Int)) (R2.length : Int)).toNat, by omega⟩
    have hkt : (spotsC R2).take k = spotsC (R2.take (most - (R1.length : Int)).toNat) := by
      unfold spotsC
      rw [← List.map_take]
      congr 1
      by_cases h : (most - (R1.length : Int)).toNat ≤ R2.length
      · congr 1
        omega
      · rw [List.take_of_length_le (by omega), List.take_of_length_le (by omega)]
    have hkl : ((spotsC R2).take k).length = k := by rw [List.length_take, spotsC_len]; omega
    have HRT := Lib.hid (hr.take k)
    have HKT := Lib.hid (And.intro hkt hkl)
    have HOW := Lib.hid ho
    have HB2 := Lib.hid (HB.out.trans (hb2.mono HB.out.size))
    have HBW := Lib.hid hb2
    have HBO := Lib.hid HB.out
    have kz1 : (k : Int) ≤ (c2 : Int) := by omega
    have kz0 : (0 : Int) ≤ (k : Int) := by omega
    have kz2 : k ≤ c2 := by omega
    have hr1 : R1.length ≤ 100000 := by omega
    have hk1 : k ≤ 100000 := by omega
    have hnn : A2 = none → k = 0 := fun e => by
      have h := hr
      rw [e] at h
      have h2 := h.none_len rfl
      rw [spotsC_len] at h2
      omega
    clear ho hr hc1 hb2 HSP HB HI hle hkt hkl
    have w1 : wrap64 (most - (R1.length : Int)) = most - (R1.length : Int) := Go.IntWalk.wrap64_in _ ⟨by omega, by omega⟩
    go_wp2_with (at_builtin; refine wpList_append_cells rfl _ _ 22 rfl W.heap.size 37 i1 _ 3 24 Try.underlying22 hp0 hp1 hp2 hp3 rfl (by decide) _ R1.length (cellsS (spotsC R1)) rfl HOW.out A2 k c2 (cellsS ((spotsC R2).take k)) rfl (by rw [cellsS_len, HKT.out.2]) hnn (RdS.news_all HRT.out) cellsS_one (by unfold maxLen; omega) (by omega) HBW.out.size ?_; intro v5 X5 hown5 hg5; obtain ⟨A5, c5, rfl, hc5, hm5⟩ := ownSlice hown5)
    have hb5 := ownBase HOW.out HBW.out (Nat.le_refl _) HBW.out.size hg5
    have hR := rdS_own (M := spotsC R1 ++ (spotsC R2).take k) (by rw [cellsS_app, List.length_append, spotsC_len, HKT.out.2]; exact hown5)
    have HR := Lib.hid hR
    have HB5 := Lib.hid (HBO.out.trans (hb5.mono HBO.out.size))
    have hLe : spotsC (bestL its most M) = spotsC R1 ++ (spotsC R2).take k := by
      rw [HBL.out, HKT.out.1]
      simp [spotsC]
    have hLl : (spotsC R1 ++ (spotsC R2).take k).length = R1.length + k := by rw [List.length_append, spotsC_len, HKT.out.2]
    have HLL := Lib.hid (And.intro hLe hLl)
    clear hown5 hg5 hR hb5 hLe hLl
    go_wp2
    go_ret
    refine ⟨M, HO.out, ?_⟩
    rw [if_neg (by omega), HLL.out.1]
    exact ⟨A5, c5, by rw [HLL.out.2]; rfl, HR.out, by rw [HLL.out.2]; exact hc5, hm5, HB5.out⟩

end Go.Proofs.Ytlgkdonaplejdaa
