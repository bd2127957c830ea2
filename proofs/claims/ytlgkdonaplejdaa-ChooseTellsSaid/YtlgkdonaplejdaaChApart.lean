/- choose.Apart, choose.Best, by contract. -/
import Derived.Test.YtlgkdonaplejdaaChSplit
namespace Go.Proofs.Ytlgkdonaplejdaa
open Go.RowKit Go.Shelf Go.Sort Go.Lib

/-- The candidates in the order in which they are gone through: there is one such list. -/
def IsOrd (zs : List SpotT) (its : List ItT) (M : List TagC) : Prop := M.Perm (candsL zs its) ∧ M.Pairwise ltX
theorem IsOrd.one {zs : List SpotT} {its : List ItT} {M M' : List TagC} (h : IsOrd zs its M) (h' : IsOrd zs its M') : M = M' := sorted_eq (h.1.trans h'.1.symm) h.2 h'.2
theorem IsOrd.len {zs : List SpotT} {its : List ItT} {M : List TagC} (h : IsOrd zs its M) : M.length = zs.length := by rw [h.1.length_eq, candsL_len]
theorem IsOrd.mem {zs : List SpotT} {its : List ItT} {M : List TagC} (h : IsOrd zs its M) {x : TagC} (hx : x ∈ M) : x.2 < zs.length ∧ x.1.1 = spAt zs x.2 ∧ x.1.2 = vecOf (itAt its x.2) := by
  have h2 := h.1.mem_iff.1 hx
  unfold candsL at h2
  simp only [List.mem_map, List.mem_range] at h2
  obtain ⟨k, hk, rfl⟩ := h2
  exact ⟨hk, rfl, rfl⟩
theorem itAt_vec {w : World} {B : Nat} {I : Option Addr} {its : List ItT} (hI : ItemsAt w B I its) (k : Nat) : VecB w B (itAt its k).A (itAt its k).vec := by
  by_cases h : k < its.length
  · exact (hI k _ (itAt_lt h)).2
  · rw [itAt_ge (by omega)]
    exact VecB.nil
/-- What Apart leaves: the spots of those that are apart, in a row of the call's own. -/
def ApartC (zs : List SpotT) (its : List ItT) (w : World) (e : Ending) (W : World) : Prop :=
  ∃ M, IsOrd zs its M ∧ SpotsOwn (spotsC (splitGo its (zs.length : Int) M [] []).1) w e W

set_option maxHeartbeats 2000000 in
theorem Apart_any (S : Option Addr) (zs : List SpotT) (cs : Nat) (I : Option Addr) (its : List ItT) (ci : Nat) (w : World) (hS : RdS w w.heap.size S zs) (hI : ItemsAt w w.heap.size I its) (hl : zs.length ≤ 100000) :
    Calls Try.prog 18 #[.slice S zs.length cs, .slice I its.length ci] w (ApartC zs its w) := by
  have HC := Lib.hid (inOrder_any S zs cs I its ci w hS hI hl)
  have HI := Lib.hid hI
  clear hS hI
  go_enter Try.func18, Try.ntmps18
  go_wp2_with fail
  refine Calls.mono HC.out ?_
  rintro e W ⟨g, M, rfl, hg1, hg2, p1, p2, hH, hb⟩
  have hO : IsOrd zs its M := ⟨p1, p2⟩
  have hMl := hO.len
  have hcl := candsL_len zs its
  have hVM : ∀ x ∈ M, x.1.2 = vecOf (itAt its x.2) ∧ VecB W W.heap.size (itAt its x.2).A (itAt its x.2).vec := fun x hx => ⟨(hO.mem hx).2.2, ((itAt_vec HI.out x.2).below hb).more hb.size⟩
  have HSP := Lib.hid (fun cap => split_any g cap M its (zs.length : Int) W hH hg2 hVM (by omega))
  rw [hMl] at HSP
  have HO := Lib.hid hO
  have HB := Lib.hid hb
  rw [hcl]
  clear hH hVM hO hb p1 p2 hcl hMl HC
  go_wp2_with fail
  refine Calls.mono (HSP.out _) ?_
  rintro e W2 ⟨A1, c1, A2, c2, rfl, ho, -, -, -, hb2⟩
  go_wp2
  go_ret
  refine ⟨M, HO.out, A1, c1, by rw [spotsC_len]; rfl, ?_, HB.out.trans (hb2.mono HB.out.size)⟩
  rw [spotsC_len]
  exact own_mono ho HB.out.size

end Go.Proofs.Ytlgkdonaplejdaa
