/- Those that are apart (ChooseApart), walked. -/
import Derived.Test.YtlgkdonaplejdaaChLives
import Derived.Test.YtlgkdonaplejdaaChApartP
import Derived.Test.YtlgkdonaplejdaaRefPush
import Derived.Test.YtlgkdonaplejdaaItemsOwn
namespace Go.Proofs.Ytlgkdonaplejdaa
open Go.RowKit Go.Shelf Go.Sort Go.Lib

/-- Which places were met. -/
def inL (n : Nat) (T : List TagC) : List Value := (List.range n).map fun j => Value.bool (decide (∃ x ∈ T, x.2 = j))
theorem inL_len (n : Nat) (T : List TagC) : (inL n T).length = n := by simp [inL]
theorem inL_get {n j : Nat} (T : List TagC) (h : j < n) : (inL n T)[j]? = some (.bool (decide (∃ x ∈ T, x.2 = j))) := by
  unfold inL
  rw [List.getElem?_map, List.getElem?_range h]
  rfl
theorem inL_set {n : Nat} (T : List TagC) (x : TagC) (h : x.2 < n) : (inL n T).set x.2 (.bool true) = inL n (T ++ [x]) := by
  apply List.ext_getElem?
  intro j
  by_cases hj : j < n
  · rw [inL_get _ hj, List.getElem?_set]
    by_cases e : x.2 = j
    · rw [if_pos e, if_pos (by rw [inL_len]; omega)]
      congr 2
      rw [eq_comm, decide_eq_true_eq]
      exact ⟨x, by simp, e⟩
    · rw [if_neg e, inL_get _ hj]
      congr 3
      simp only [List.mem_append, List.mem_singleton, eq_iff_iff]
      constructor
      · rintro ⟨y, hy, e2⟩; exact ⟨y, .inl hy, e2⟩
      · rintro ⟨y, hy | rfl, e2⟩
        · exact ⟨y, hy, e2⟩
        · exact absurd e2 e
  · rw [List.getElem?_eq_none (by rw [List.length_set, inL_len]; omega), List.getElem?_eq_none (by rw [inL_len]; omega)]
theorem inL_nil (n : Nat) : (madeCells #[.bool false] (n * 1)).toList = inL n [] := by
  apply List.ext_getElem?
  intro j
  by_cases hj : j < n
  · rw [inL_get _ hj]
    simp [madeCells, hj, Nat.mod_one]
  · rw [List.getElem?_eq_none (by simp [size_madeCells]; omega), List.getElem?_eq_none (by rw [inL_len]; omega)]
theorem info_bool : (Try.prog.info? 4).map (fun i => (i.zero, i.size, i.bytes)) = some (some (.bool false), 1, 1) := by kernel_rfl
theorem Spot_val (x y : SpotT) (W : World) (b : Bool) (h : ltS x y = b) :
    Calls Try.prog 23 #[.agg #[.int .u64 x.1.1, .int .u64 x.1.2, .int .i64 x.2], .agg #[.int .u64 y.1.1, .int .u64 y.1.2, .int .i64 y.2]] W fun e w' => e = .returned (.bool b) ∧ Grown W w' := h ▸ Spot_any x y W
theorem five_cells {X W : World} {D E b o1 o2 : Nat} {v1 v2 v3 v4 v5 : Value} (hD : D < X.heap.size) (hE : E < X.heap.size) (hb : b < X.heap.size) (h1 : X.cell? ⟨D, 2, none⟩ = some v1) (h2 : X.cell? ⟨E, 2, none⟩ = some v2) (h3 : X.cell? ⟨b, o1, none⟩ = some v3) (h4 : X.cell? ⟨b, o2, none⟩ = some v4) (h5 : X.cell? ⟨D, 0, none⟩ = some v5) (h : Below X.heap.size X W) :
    Below X.heap.size X W ∧ W.cell? ⟨D, 2, none⟩ = some v1 ∧ W.cell? ⟨E, 2, none⟩ = some v2 ∧ W.cell? ⟨b, o1, none⟩ = some v3 ∧ W.cell? ⟨b, o2, none⟩ = some v4 ∧ W.cell? ⟨D, 0, none⟩ = some v5 :=
  ⟨h, (h.cell (p := ⟨D, 2, none⟩) hD).trans h1, (h.cell (p := ⟨E, 2, none⟩) hE).trans h2, (h.cell (p := ⟨b, o1, none⟩) hb).trans h3, (h.cell (p := ⟨b, o2, none⟩) hb).trans h4, (h.cell (p := ⟨D, 0, none⟩) hD).trans h5⟩
/-- The distance of two items, by their places. -/
def distT (its : List ItT) (a b : Nat) : Int := satN (distN (itAt its a).vec (itAt its b).vec (max (itAt its a).vec.length (itAt its b).vec.length))
def pick (its : List ItT) (k : Nat) (s : SpotT) (e : TagC) : Bool := ltS e.1.1 s && decide (distT its k e.2 < s.1.1)
/-- Two spots in their boxes, and the vectors of their items. -/
structure Eight (X : World) (D E b o1 o2 : Nat) (sa sb sc ya yb yc : Int) (v1 v2 : Value) : Prop where
  hD : D < X.heap.size
  hE : E < X.heap.size
  hb : b < X.heap.size
  m0 : X.cell? ⟨D, 0, none⟩ = some (.int .u64 sa)
  m1 : X.cell? ⟨D, 1, none⟩ = some (.int .u64 sb)
  m2 : X.cell? ⟨D, 2, none⟩ = some (.int .i64 sc)
  n0 : X.cell? ⟨E, 0, none⟩ = some (.int .u64 ya)
  n1 : X.cell? ⟨E, 1, none⟩ = some (.int .u64 yb)
  n2 : X.cell? ⟨E, 2, none⟩ = some (.int .i64 yc)
  a1 : X.cell? ⟨b, o1, none⟩ = some v1
  a2 : X.cell? ⟨b, o2, none⟩ = some v2
theorem Eight.all {X W : World} {D E b o1 o2 : Nat} {sa sb sc ya yb yc : Int} {v1 v2 : Value} (t : Eight X D E b o1 o2 sa sb sc ya yb yc v1 v2) (h : Below X.heap.size X W) :
    Below X.heap.size X W ∧ W.cell? ⟨E, 0, none⟩ = some (.int .u64 ya) ∧ W.cell? ⟨E, 1, none⟩ = some (.int .u64 yb) ∧ W.cell? ⟨E, 2, none⟩ = some (.int .i64 yc) ∧ W.cell? ⟨D, 0, none⟩ = some (.int .u64 sa) ∧ W.cell? ⟨D, 1, none⟩ = some (.int .u64 sb) ∧ W.cell? ⟨D, 2, none⟩ = some (.int .i64 sc) ∧ W.cell? ⟨b, o1, none⟩ = some v1 ∧ W.cell? ⟨b, o2, none⟩ = some v2 :=
  ⟨h, (h.cell (p := ⟨E, 0, none⟩) t.hE).trans t.n0, (h.cell (p := ⟨E, 1, none⟩) t.hE).trans t.n1, (h.cell (p := ⟨E, 2, none⟩) t.hE).trans t.n2, (h.cell (p := ⟨D, 0, none⟩) t.hD).trans t.m0, (h.cell (p := ⟨D, 1, none⟩) t.hD).trans t.m1, (h.cell (p := ⟨D, 2, none⟩) t.hD).trans t.m2, (h.cell (p := ⟨b, o1, none⟩) t.hb).trans t.a1, (h.cell (p := ⟨b, o2, none⟩) t.hb).trans t.a2⟩
/-- Of what is chosen, by places: the row's cells. -/
theorem rdC {W : World} {B : Nat} {A : Option Addr} {ch : List TagC} (h : RdS W B A (spotsC ch)) (k : Nat) (hk : k < ch.length) : ∃ b off, A = some ⟨b, off, none⟩ ∧ b < B ∧ W.cell? ⟨b, off + k * 3, none⟩ = some (.int .u64 ch[k].1.1.1.1) ∧ W.cell? ⟨b, off + k * 3 + 1, none⟩ = some (.int .u64 ch[k].1.1.1.2) ∧ W.cell? ⟨b, off + k * 3 + 2, none⟩ = some (.int .i64 ch[k].1.1.2) :=
  h k _ (by unfold spotsC; rw [List.getElem?_map, List.getElem?_eq_getElem hk]; rfl)
/-- What the law asks of the two lists, by places. -/
structure Asks (q : List Int) (its : List ItT) (ch : List TagC) (Bb : List SpotT) : Prop where
  cho : Chosen q its ch
  le : ch.length ≤ its.length
  at_ : ∀ k (h : k < ch.length) (h2 : k < Bb.length), Bb[k] = ch[k].1.1
theorem asks_of {q : List Int} {its : List ItT} {M ch : List TagC} {most : Int} {Bb : List SpotT} (hO : IsOrd (spotsL q its) its M) (hch : (splitGo its ((spotsL q its).length : Int) M [] []).1 = ch) (hB : (if most < 1 then [] else spotsC (bestL its most M)) = Bb) : Asks q its ch Bb ∧ ((Bb.length : Nat) : Int) = max 0 (min most (its.length : Int)) := by
  have hl : M.length = its.length := by rw [hO.len, spotsL_len]
  have hsub : ch.Sublist M := by rw [← hch]; simpa using splitGo_sub its ((spotsL q its).length : Int) M [] []
  refine ⟨⟨chosen_of hO hch, by have := hsub.length_le; omega, ?_⟩, ?_⟩
  · subst hB
    intro k h h2
    by_cases hm : most < 1
    · simp [hm] at h2
    · simp only [if_neg hm] at h2 ⊢
      have h3 : k < (bestL its most M).length := by rw [spotsC_len] at h2; exact h2
      subst hch
      have := best_at (its := its) (most := most) (big := ((spotsL q its).length : Int)) (M := M) (by omega) (by rw [spotsL_len, hl]; exact Int.le_refl _) h3 h
      unfold spotsC
      rw [List.getElem_map, this]
  · subst hB
    by_cases hm : most < 1
    · rw [if_pos hm]
      simp
      omega
    · rw [if_neg hm, spotsC_len, bestL_len (by omega), hl]
      omega

end Go.Proofs.Ytlgkdonaplejdaa
