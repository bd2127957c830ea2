/- slices.SortStableFunc at candidates, by contract: in order, and equal ones as they were. -/
import Derived.Test.YtlgkdonaplejdaaStabSym
import Derived.Test.YtlgkdonaplejdaaStabIns
import Derived.Test.YtlgkdonaplejdaaStabShelf
import Derived.Shelf.SlSortFuncK.ComposeK
namespace Go.Proofs.Ytlgkdonaplejdaa
open Go.RowKit Go.Shelf Go.Sort Go.Lib

section
variable {w : World} {g : Nat} {d : Array TagC}
theorem symMerge_all (hH : HoldsK encC 4 w g 0 d) (hg : g < w.heap.size) (N cap : Nat) (hd : d.size = N) (hNs : N < 1000000) : ∀ n, SymOk w g N cap n
  | 0 => fun P L R S mm os za zm zb hn h1 h2 _ _ _ _ _ _ _ => by omega
  | n + 1 => fun P L R S mm os za zm zb hn h1 h2 ha hm hb hN sL sR hi => by
    by_cases c1 : L.length = 1
    · obtain ⟨x, rfl⟩ := List.length_eq_one_iff.1 c1
      exact symMerge_left hH hg P R S x N mm cap os za zm zb ha hm hb h2 hN hd hNs sR (fun y hy => hi x (by simp) y hy)
    · by_cases c2 : R.length = 1
      · obtain ⟨x, rfl⟩ := List.length_eq_one_iff.1 c2
        exact symMerge_right hH hg P L S x N mm cap os za zm zb ha hm hb (by omega) hN hd hNs sL (fun y hy => hi y hy x (by simp))
      · subst ha hm hb
        obtain ⟨a, ha⟩ : ∃ a, P.length = a := ⟨_, rfl⟩
        obtain ⟨md, hm⟩ : ∃ md, a + L.length = md := ⟨_, rfl⟩
        obtain ⟨b, hb⟩ : ∃ b, md + R.length = b := ⟨_, rfl⟩
        rw [ha, hm, hb]
        by_cases c3 : (a + b) / 2 < md
        · exact symMerge_step hH hg N cap n hd hNs (symMerge_all hH hg N cap hd hNs n) P L R S mm os a md b _ _ _ _ hn (by omega) (by omega) ha hm hb (by omega) sL sR hi rfl rfl (.inl ⟨c3, rfl, rfl⟩)
        · exact symMerge_step hH hg N cap n hd hNs (symMerge_all hH hg N cap hd hNs n) P L R S mm os a md b _ _ _ _ hn (by omega) (by omega) ha hm hb (by omega) sL sR hi rfl rfl (.inr ⟨c3, rfl, rfl⟩)

theorem insertion_any (hH : HoldsK encC 4 w g 0 d) (hg : g < w.heap.size) (A C S : List TagC) (N mm cap : Nat) (os : Array Obj) (za zb : Int) (ha : za = (A.length : Int)) (hb : zb = ((A.length + C.length : Nat) : Int)) (hN : A.length + C.length + S.length = N) (hd : d.size = N) (hNs : N < 1000000) (hr : Rises C) :
    Calls Try.prog 192 #[.slice (some ⟨g, 0, none⟩) N cap, .int .i64 za, .int .i64 zb, .func (.func 125) #[] #[]] (SwC w g mm (A ++ (C ++ S)) os) fun e W => ∃ B : List TagC, B.Perm C ∧ B.Pairwise ltX ∧ RowC w g (A ++ (B ++ S)) e W := by
  subst ha hb
  obtain ⟨B, p1, p2, p3⟩ := insSort_list A C S A.length (A.length + C.length) rfl rfl hr
  have hl : (A ++ (C ++ S)).length = N := by simp; omega
  have hHM := holdsC (m := mm) (os := os) hH hg hd hl
  have hsz : (A ++ (C ++ S)).toArray.size = N := by simpa using hl
  have h := AnyQ.insertionSortCmpFunc candIns 4 Try.isAgg165 Try.sizeOf165 encC (fun x => encC_len x) (fun x v hv => encC_one x v hv) cmpC 125 #[] g 0 cap A.length (A.length + C.length) (A ++ (C ++ S)).toArray (SwC w g mm (A ++ (C ++ S)) os)
    (enters_of Try.func125 (by kernel_rfl) rfl) (cmpLaysC g _ _) hHM (swC_size w g mm _ os hg) (by omega) (by simp) (by rw [hsz]; omega)
  rw [hsz] at h
  refine Calls.mono h ?_
  rintro e W ⟨rfl, n, os', rfl⟩
  rw [p3]
  refine ⟨B, p1, p2, rfl, mm + n, os ++ os', ?_⟩
  have hl2 : (A ++ (B ++ S)).toArray.size = (A ++ (C ++ S)).toArray.size := by have := p1.length_eq; simp; omega
  exact sortWorldK_on encC 4 w g 0 mm n (A ++ (C ++ S)).toArray (A ++ (B ++ S)).toArray os os' hg hl2
end

end Go.Proofs.Ytlgkdonaplejdaa
